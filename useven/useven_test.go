package useven

import (
	"encoding/base64"
	"fmt"
	"regexp"
	"slices"
	"strings"
	"testing"
	"unicode/utf16"

	"sheave/api"
)

// direct are the direct signs, as a class of a pattern has them.
const direct = `A-Za-z0-9'(),./:? \t\r\n-`

// The words of the document as patterns, over signs and over what is laid.
var (
	oneDirect  = regexp.MustCompile(`^[` + direct + `]$`)
	plusOrRun  = regexp.MustCompile(`\+|[^+` + direct + `][^` + direct + `]*`)
	laidRun    = regexp.MustCompile(`\+([A-Za-z0-9+/]*)-`)
	rightLaid  = regexp.MustCompile(`^([` + direct + `]|\+-|\+[A-Za-z0-9+/]+-)*$`)
	rightSeven = regexp.MustCompile(`^[\t\n\r\x20-\x7E]*$`)
)

// edges are signs that stand beside others of another kind, or of another length.
var edges = []rune{'A', '-', '+', '=', '~', 0, 0xE9, 0x20AC, 0xD7FF, 0xE000, 0xFFFD, 0xFFFF, 0x10000, 0x1F600, 0x10FFFF}

// wrongs are numbers that are no signs.
var wrongs = []rune{-1, -65, -1 << 31, 0xD800, 0xDBFF, 0xDC00, 0xDFFF, 0x110000, 0x110041, 1<<31 - 1}

// answers are what the calls tell of a text.
type answers struct {
	laid string
	err  api.Errno
	runs int
	code string
	len  int
}

func (a answers) String() string {
	return fmt.Sprintf("laid %q, %d, %d runs, code %q, length %d", a.laid, a.err, a.runs, a.code, a.len)
}

// told is what the calls answer of a text.
func told(t []rune) answers {
	laid, err := Lay(t)
	return answers{string(laid), err, Runs(t), string(Code(t)), Len(t)}
}

// isRight tells whether all numbers are signs.
func isRight(t []rune) bool {
	for _, c := range t {
		if c < 0 || 0xD800 <= c && c <= 0xDFFF || c > 0x10FFFF {
			return false
		}
	}
	return true
}

// expectedCode is the code that is expected of a text that is right.
func expectedCode(t []rune) string {
	var octets []byte
	for _, u := range utf16.Encode(t) {
		octets = append(octets, byte(u>>8), byte(u))
	}
	return base64.RawStdEncoding.EncodeToString(octets)
}

// expected is what is expected of a text.
func expected(t []rune) answers {
	runs := 0
	// What is no sign becomes one that is not direct either.
	laid := plusOrRun.ReplaceAllStringFunc(string(t), func(s string) string {
		if s == "+" {
			return "+-"
		}
		runs++
		return "+" + expectedCode([]rune(s)) + "-"
	})
	if !isRight(t) {
		return answers{err: api.ErrScalar, runs: runs}
	}
	return answers{laid, api.OK, runs, expectedCode(t), len(laid)}
}

// readBack is what is laid, read by the words of RFC 2152.
func readBack(laid string) string {
	return laidRun.ReplaceAllStringFunc(laid, func(s string) string {
		if s == "+-" {
			return "+"
		}
		octets, err := base64.RawStdEncoding.DecodeString(s[1 : len(s)-1])
		if err != nil || len(octets)%2 != 0 {
			panic(s)
		}
		var units []uint16
		for i := 0; i < len(octets); i += 2 {
			units = append(units, uint16(octets[i])<<8|uint16(octets[i+1]))
		}
		return string(utf16.Decode(units))
	})
}

// check holds what the calls answer against what is expected, and what follows.
func check(t *testing.T, text []rune) {
	t.Helper()
	got, want := told(text), expected(text)
	if got != want {
		t.Fatalf("of %X is told %v, want %v", text, got, want)
	}
	if got.err != api.OK {
		return
	}
	if !rightLaid.MatchString(got.laid) || !Seven([]byte(got.laid)) {
		t.Fatalf("%X is laid as %q", text, got.laid)
	}
	if read := readBack(got.laid); read != string(text) {
		t.Fatalf("%X is laid as %q, and read as %q", text, got.laid, read)
	}
}

// every hands on all lists of these elements of so many of them.
func every[E any](of []E, many int, do func(s []E)) {
	s := make([]E, many)
	var from func(at int)
	from = func(at int) {
		if at == many {
			do(s)
			return
		}
		for _, c := range of {
			s[at] = c
			from(at + 1)
		}
	}
	from(0)
}

// ascii are all numbers below 128.
func ascii() []rune {
	var t []rune
	for c := range rune(128) {
		t = append(t, c)
	}
	return t
}

// someSigns is a row of so many of these signs that has no short period.
func someSigns(of []rune, many int) []rune {
	t := make([]rune, many)
	x := uint32(many) + 1
	for i := range t {
		x = x*1664525 + 1013904223
		t[i] = of[int(x>>16)%len(of)]
	}
	return t
}

// behind fills the room behind a text, so that a run would go on there.
const behind = 0xE9

// roomy is a text with room behind its end.
func roomy(t []rune) []rune {
	whole := slices.Concat(t, slices.Repeat([]rune{behind}, 16))
	return whole[:len(t)]
}

// untouched tells whether such a text and its room are as they were.
func untouched(t, as []rune) bool {
	return slices.Equal(t, as) && slices.Equal(t[len(t):len(t)+16], slices.Repeat([]rune{behind}, 16))
}

// writeOver fills a list to its capacity, so that memory that is shared shows.
func writeOver[E any](s []E, with E) {
	s = s[:cap(s)]
	for i := range s {
		s[i] = with
	}
}

// P22.1

func TestDirect(t *testing.T) {
	const signs = "ABCDEFGHIJKLMNOPQRSTUVWXYZabcdefghijklmnopqrstuvwxyz0123456789'(),-./:? \t\r\n"
	for c := rune(-300); c <= 0x11FFFF; c++ {
		want := c >= 0 && strings.ContainsRune(signs, c)
		if c == 0xFFFD {
			want = false
		}
		if got := Direct(c); got != want {
			t.Fatalf("Direct(%X) = %t", c, got)
		}
		if c < 128 && c >= 0 && want != oneDirect.MatchString(string(c)) {
			t.Fatalf("the tests say twofold things of %X", c)
		}
	}
	for _, c := range slices.Concat(wrongs, []rune{-65 * 256, 1<<30 + 'A', 256 + 'A', 512 + '-', -256 + 'A', -1<<31 + 'A'}) {
		if Direct(c) {
			t.Errorf("Direct(%X) = true", c)
		}
	}
}

func TestLayCases(t *testing.T) {
	cases := []struct {
		text []rune
		laid string
		runs int
	}{
		{[]rune{'A', 0x2262, 0x391, '.'}, "A+ImIDkQ-.", 1},
		{nil, "", 0}, {[]rune("a"), "a", 0}, {[]rune("Hi Mom, (it's) 9-5: ok/no?\r\n\t."), "Hi Mom, (it's) 9-5: ok/no?\r\n\t.", 0},
		// Those of RFC 2152, whose optional signs are coded here.
		{[]rune{0x65E5, 0x672C, 0x8A9E}, "+ZeVnLIqe-", 1}, {[]rune{'H', 'i', ' ', '-', 0x263A, '-', '!'}, "Hi -+Jjo--+ACE-", 2}, {[]rune("Item 3 is \u00A31."), "Item 3 is +AKM-1.", 1},
		// A `+` alone, in rows, and ahead of what a reader would take for a run's digits, or its end.
		{[]rune("+"), "+-", 0}, {[]rune("++"), "+-+-", 0}, {[]rune("+-"), "+--", 0}, {[]rune("+A"), "+-A", 0}, {[]rune("1+1=2"), "1+-1+AD0-2", 1}, {[]rune("a+b"), "a+-b", 0}, {[]rune("-+-"), "-+--", 0},
		// A `+` ahead of a run is none of it, one in it or behind it is.
		{[]rune("+\u00E9"), "+-+AOk-", 1}, {[]rune("++\u00E9"), "+-+-+AOk-", 1}, {[]rune("\u00E9+"), "+AOkAKw-", 1}, {[]rune("\u00E9++"), "+AOkAKwAr-", 1}, {[]rune("\u00E9+\u00E9"), "+AOkAKwDp-", 1}, {[]rune("\u00E9+-"), "+AOkAKw--", 1}, {[]rune("+\u00E9+"), "+-+AOkAKw-", 1}, {[]rune("\u00E9a+"), "+AOk-a+-", 1}, {[]rune("=+"), "+AD0AKw-", 1},
		// A direct sign ends a run, whatever it is.
		{[]rune("\u00E9"), "+AOk-", 1}, {[]rune("\u00E9A"), "+AOk-A", 1}, {[]rune("\u00E9-"), "+AOk--", 1}, {[]rune("\u00E9/"), "+AOk-/", 1}, {[]rune("\u00E9 \u00E9"), "+AOk- +AOk-", 2}, {[]rune("\u00E9a\u00E9"), "+AOk-a+AOk-", 2}, {[]rune("\u00E9-\u00E9"), "+AOk--+AOk-", 2}, {[]rune("\u00E9\r\n\u00E9"), "+AOk-\r\n+AOk-", 2}, {[]rune("\u00E9."), "+AOk-.", 1},
		// Signs of one length and another: a digit is left over, or two, or none.
		{[]rune("\u00E9\u00E9"), "+AOkA6Q-", 1}, {[]rune("\u00E9\u00E9\u00E9"), "+AOkA6QDp-", 1}, {[]rune{0x1F600}, "+2D3eAA-", 1}, {[]rune{0x10000}, "+2ADcAA-", 1}, {[]rune{0x10FFFF}, "+2//f/w-", 1}, {[]rune{0xFFFF}, "+//8-", 1}, {[]rune{0xFFFD}, "+//0-", 1}, {[]rune{0xD7FF, 0xE000}, "+1//gAA-", 1}, {[]rune{'a', 0x1F600, 0xE9, 'b'}, "a+2D3eAADp-b", 1},
		// Signs of ASCII that are not direct.
		{[]rune("!\"#$%&*;<=>@[]^_`{|}"), "+ACEAIgAjACQAJQAmACoAOwA8AD0APgBAAFsAXQBeAF8AYAB7AHwAfQ-", 1}, {[]rune("~"), "+AH4-", 1}, {[]rune(`\`), "+AFw-", 1}, {[]rune{0}, "+AAA-", 1}, {[]rune{127}, "+AH8-", 1}, {[]rune{11, 12}, "+AAsADA-", 1}, {[]rune("a@b.c"), "a+AEA-b.c", 1},
	}
	for _, x := range cases {
		got, err := Lay(x.text)
		if string(got) != x.laid || err != api.OK {
			t.Errorf("Lay(%X) = %q, %d, want %q", x.text, got, err, x.laid)
		}
		if got := Runs(x.text); got != x.runs {
			t.Errorf("Runs(%X) = %d, want %d", x.text, got, x.runs)
		}
		if got := Len(x.text); got != len(x.laid) {
			t.Errorf("Len(%X) = %d, want %d", x.text, got, len(x.laid))
		}
		check(t, x.text)
	}
}

func TestCodeCases(t *testing.T) {
	cases := []struct {
		text []rune
		want string
	}{
		{nil, ""}, {[]rune{0x2262, 0x391}, "ImIDkQ"}, {[]rune("a"), "AGE"}, {[]rune("ab"), "AGEAYg"}, {[]rune("+-"), "ACsALQ"}, {[]rune{0}, "AAA"}, {[]rune{0xFFFF}, "//8"}, {[]rune{0x1F600}, "2D3eAA"}, {[]rune{'a', 0x1F600}, "AGHYPd4A"},
		{[]rune{0xD800}, ""}, {[]rune{'a', 0xDC00}, ""}, {[]rune{0xD83D, 0xDE00}, ""}, {[]rune{-1}, ""}, {[]rune{0x110000, 'a'}, ""},
	}
	for _, x := range cases {
		if got := Code(x.text); string(got) != x.want {
			t.Errorf("Code(%X) = %q, want %q", x.text, got, x.want)
		}
		check(t, x.text)
	}
}

// What is no sign is refused wherever it stands, though runs are counted.
func TestWrongNumbers(t *testing.T) {
	around := [][]rune{nil, []rune("a"), []rune("+"), []rune("\u00E9"), []rune("a\u00E9"), []rune("\u00E9a"), {0x10FFFF}, {0xFFFD}, []rune(strings.Repeat("a", 100))}
	for _, c := range wrongs {
		for _, ahead := range around {
			for _, behind := range around {
				text := slices.Concat(ahead, []rune{c}, behind)
				s, err := Lay(text)
				if s != nil || err != api.ErrScalar || Len(text) != 0 || len(Code(text)) != 0 {
					t.Fatalf("of %X is told %v", text, told(text))
				}
				check(t, text)
			}
		}
	}
	runs := []struct {
		text []rune
		want int
	}{{[]rune{-1}, 1}, {[]rune{0xD800, 0xDC00}, 1}, {[]rune{0xD800, 'a', -1}, 2}, {[]rune{'a', '+', 0x110000, '+', 'a', 0xE9}, 2}, {[]rune{'a' - 256}, 1}}
	for _, x := range runs {
		if got := Runs(x.text); got != x.want {
			t.Errorf("Runs(%X) = %d, want %d", x.text, got, x.want)
		}
	}
}

func TestEverySign(t *testing.T) {
	for c := rune(-10); c <= 0x110010; c++ {
		// The expectations of each are slow: of all, what is told of one alone.
		got, err := Lay([]rune{c})
		want, wantErr := "", api.OK
		switch {
		case !isRight([]rune{c}):
			wantErr = api.ErrScalar
		case c == '+':
			want = "+-"
		case Direct(c):
			want = string(c)
		default:
			want = "+" + expectedCode([]rune{c}) + "-"
		}
		if string(got) != want || err != wantErr {
			t.Fatalf("Lay(%X) = %q, %d, want %q, %d", c, got, err, want, wantErr)
		}
	}
	for c := rune(-10); c <= 0x800; c++ {
		check(t, []rune{c})
		check(t, []rune{'a', c, 'b'})
		check(t, []rune{0xE9, c, 0xE9})
	}
}

func TestEveryTwoAndThreeSigns(t *testing.T) {
	every(slices.Concat(ascii(), edges[5:], wrongs), 2, func(text []rune) { check(t, text) })
	every(slices.Concat(edges, wrongs), 3, func(text []rune) { check(t, text) })
}

func TestEveryShortText(t *testing.T) {
	for many := range 8 {
		every([]rune{'A', '-', '+', 0xE9}, many, func(text []rune) { check(t, text) })
	}
	for many := range 6 {
		every([]rune{'/', '+', '=', 0x1F600, 0xFFFF, 0xD83D}, many, func(text []rune) { check(t, text) })
	}
}

func TestLongerTexts(t *testing.T) {
	kinds := [][]rune{{'a'}, {'+'}, {0xE9}, {0x1F600}, {'a', 0xE9}, {'+', 0xE9}, {'a', '+', 0xE9}, {'a', 'b', 'c', '-', '+', '=', 0xE9, 0x1F600}, ascii(), edges, slices.Concat(edges, wrongs[:1])}
	for _, of := range kinds {
		for many := range 200 {
			check(t, someSigns(of, many))
		}
	}
}

// Very many signs are laid in a time that grows with them.
func TestVeryLongTexts(t *testing.T) {
	many := 3 << 17
	cases := []struct {
		of, laid string
		runs     int
	}{{"a", "a", 0}, {"+", "+-", 0}, {"a\u00E9", "a+AOk-", 1}, {"\u00E9a", "+AOk-a", 1}, {"\u00E9 +", "+AOk- +-", 1}}
	for _, x := range cases {
		text := []rune(strings.Repeat(x.of, many))
		if got, err := Lay(text); string(got) != strings.Repeat(x.laid, many) || err != api.OK {
			t.Errorf("%q, %d times, is laid otherwise", x.of, many)
		}
		if got := Runs(text); got != x.runs*many {
			t.Errorf("%q, %d times, has %d runs", x.of, many, got)
		}
		if got := Len(text); got != len(x.laid)*many {
			t.Errorf("%q, %d times, has the length %d", x.of, many, got)
		}
	}
	for _, of := range []string{"\u00E9", "\u00E9+", "\U0001F600"} {
		text := []rune(strings.Repeat(of, many))
		want := "+" + expectedCode(text) + "-"
		if got, err := Lay(text); string(got) != want || err != api.OK || Runs(text) != 1 || Len(text) != len(want) {
			t.Errorf("%q, %d times, is laid otherwise", of, many)
		}
	}
}

// P22.2

func TestSevenCases(t *testing.T) {
	cases := []struct {
		s    string
		want bool
	}{
		{"", true}, {"a", true}, {"a b\tc\r\nd", true}, {"\t", true}, {"\n", true}, {"\r", true}, {"\n\r", true}, {" ", true}, {"!", true}, {"~", true}, {"A+ImIDkQ-.", true}, {"=?x\\\"", true},
		{"\x00", false}, {"\x08", false}, {"\x0B", false}, {"\x0C", false}, {"\x0E", false}, {"\x1B", false}, {"\x1F", false}, {"\x7F", false}, {"\x80", false}, {"\x89", false}, {"\x8A", false}, {"\x8D", false}, {"\xA0", false}, {"\xE1", false}, {"\xFF", false}, {"\u00E9", false},
		{"abc\x00", false}, {"\x7Fabc", false}, {"ab\x80c", false}, {"\r\n\x00\r\n", false},
	}
	for _, x := range cases {
		if got := Seven([]byte(x.s)); got != x.want {
			t.Errorf("Seven(%q) = %t", x.s, got)
		}
	}
}

func TestSevenOfEveryTwoOctets(t *testing.T) {
	var all []byte
	for c := range 256 {
		all = append(all, byte(c))
	}
	for many := range 3 {
		every(all, many, func(s []byte) {
			if got, want := Seven(s), rightSeven.Match(s); got != want {
				t.Fatalf("Seven(%q) = %t", s, got)
			}
		})
	}
	right := strings.Repeat("\t\r\n azAZ~!", 20)
	for at := range len(right) + 1 {
		for _, c := range all {
			s := []byte(right[:at] + string([]byte{c}) + right[at:])
			if got, want := Seven(s), rightSeven.Match([]byte{c}); got != want {
				t.Fatalf("Seven(%q) = %t", s, got)
			}
		}
	}
}

// P22.3

func TestDirectTextsAreThemselves(t *testing.T) {
	var signs []rune
	for _, c := range ascii() {
		if Direct(c) {
			signs = append(signs, c)
		}
	}
	if want := 26 + 26 + 10 + 9 + 4; len(signs) != want {
		t.Fatalf("%d signs are direct, want %d", len(signs), want)
	}
	same := func(text []rune) {
		got, err := Lay(text)
		if string(got) != string(text) || err != api.OK || Runs(text) != 0 || Len(text) != len(text) {
			t.Fatalf("of %q is told %v", string(text), told(text))
		}
	}
	for many := range 3 {
		every(signs, many, same)
	}
	for many := range 400 {
		same(someSigns(signs, many))
	}
}

func TestLaidIsOfSevenBits(t *testing.T) {
	var row []rune
	for c := rune(0); c <= 0x10FFFF; c++ {
		if !isRight([]rune{c}) {
			continue
		}
		row = append(row, c)
		if len(row) == 997 || c == 0x10FFFF {
			check(t, row)
			row = row[:0]
		}
	}
}

// R5: nil and empty lists.
func TestNilAndEmpty(t *testing.T) {
	for _, text := range [][]rune{nil, {}, make([]rune, 0, 8)} {
		if got, want := told(text), (answers{}); got != want {
			t.Errorf("of nothing is told %v", got)
		}
	}
	if !Seven(nil) || !Seven([]byte{}) {
		t.Error("no octets are not of seven bits")
	}
}

// samples are texts of all kinds.
func samples() [][]rune {
	return [][]rune{nil, []rune("a"), []rune("+"), []rune("\u00E9"), []rune("a+\u00E9"), []rune("\u00E9+"), []rune("a\u00E9b\u00E9"), {0x1F600}, {0xD800}, {'a', -1}, {0x10FFFF, 0xE9, 'a'}, someSigns(ascii(), 300), someSigns(edges, 300), someSigns(wrongs, 30)}
}

// calls are those that answer a list.
func calls() []func(t []rune) []byte {
	lay := func(t []rune) []byte {
		s, _ := Lay(t)
		return s
	}
	return []func(t []rune) []byte{lay, Code}
}

// R3: the same again, whatever capacity a list has, and whatever stands behind its end.
func TestSameAnswersAgain(t *testing.T) {
	for _, text := range samples() {
		want := told(slices.Clip(text))
		for range 3 {
			if got := told(roomy(text)); got != want {
				t.Errorf("of %X is told %v, and then %v", text, want, got)
			}
		}
	}
	whole := []byte("abc\x00")
	for range 3 {
		if !Seven(whole[:3]) || Seven(whole) {
			t.Error("what stands behind a list's end is asked")
		}
	}
}

// R4: lists are left as they are, and answers share nothing.

func TestListsAreLeft(t *testing.T) {
	for _, as := range samples() {
		text := roomy(as)
		told(text)
		if !untouched(text, as) {
			t.Errorf("%X was written into: %X", as, text[:cap(text)])
		}
	}
	for _, as := range []string{"abc", "a\x00\xFF", ""} {
		s := []byte(as + "behind")
		Seven(s[:len(as)])
		if string(s) != as+"behind" {
			t.Errorf("%q was written into: %q", as, s)
		}
	}
}

func TestAnswersShareNothing(t *testing.T) {
	for i, call := range calls() {
		for _, as := range samples() {
			text := roomy(as)
			first := call(text)
			want := slices.Clone(first)
			writeOver(first, 'X')
			if !untouched(text, as) {
				t.Errorf("call %d of %X answers what it was handed", i, as)
			}
			second := call(text)
			if !slices.Equal(second, want) {
				t.Errorf("call %d of %X answers %q after a write, %q ahead", i, as, second, want)
			}
			writeOver(text, 'X')
			if !slices.Equal(second, want) {
				t.Errorf("call %d of %X keeps what it was handed", i, as)
			}
		}
	}
}
