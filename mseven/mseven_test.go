package mseven

import (
	"encoding/base64"
	"fmt"
	"regexp"
	"slices"
	"strconv"
	"strings"
	"testing"
	"unicode/utf16"

	"sheave/api"
	"sheave/bmod"
	"sheave/sread"
)

// alphabet writes the digits out, in their order.
const alphabet = "ABCDEFGHIJKLMNOPQRSTUVWXYZabcdefghijklmnopqrstuvwxyz0123456789+,"

// The words of the document as patterns, over signs, over what is laid, and over octets that are signs of the same numbers.
var (
	ampOrRun  = regexp.MustCompile(`&|[^\x20-\x7E]+`)
	laidRun   = regexp.MustCompile(`&([A-Za-z0-9+,]*)-`)
	rightLaid = regexp.MustCompile(`^([\x20-\x25\x27-\x7E]|&-|&[A-Za-z0-9+,]+-)*$`)
	onePiece  = regexp.MustCompile(`(?s)&-|(&)([A-Za-z0-9+,]+)-?|.`)
	itself    = regexp.MustCompile(`^[\x20-\x25\x27-\x7E]$`)
	digits    = regexp.MustCompile(`^[A-Za-z0-9+,]*$`)
)

// signEdges are signs that stand beside others of another kind, or of another length.
var signEdges = []rune{'A', '-', '&', '+', ',', ' ', '~', 0, 31, 127, 0xE9, 0x20AC, 0xD7FF, 0xE000, 0xFFFD, 0xFFFF, 0x10000, 0x1F600, 0x10FFFF}

// wrongs are numbers that are no signs.
var wrongs = []rune{-1, -65, -1 << 31, 0xD800, 0xDBFF, 0xDC00, 0xDFFF, 0x110000, 0x110041, 1<<31 - 1}

// octetEdges are octets that stand beside others of another kind.
var octetEdges = []byte("A,+/&-=09z. ~\x00\x1F\x7F\x80\xC3\xA9\xFF\r\n")

// halves are units that stand beside others of another kind.
var halves = []uint16{0, 'A', 0x20AC, 0xD7FF, 0xD800, 0xDBFF, 0xDC00, 0xDFFF, 0xE000, 0xFFFD, 0xFFFF}

// answers are what the calls tell of a text.
type answers struct {
	laid string
	err  api.Errno
	runs int
	code string
}

func (a answers) String() string {
	return fmt.Sprintf("laid %q, %d, %d runs, code %q", a.laid, a.err, a.runs, a.code)
}

// told is what the calls answer of a text.
func told(t []rune) answers {
	laid, err := Lay(t)
	return answers{string(laid), err, Runs(t), string(Code(t))}
}

// isRight tells whether all numbers are signs.
func isRight(t []rune) bool {
	for _, c := range t {
		if c < 0 || 0xD800 <= c && c <= 0xDFFF || c > 0x10FFFF {
			return false
		}
	}
	return true
}

// library is layer 17's code as the library has it.
func library() *base64.Encoding {
	return base64.NewEncoding(alphabet).WithPadding(base64.NoPadding)
}

// codeOf are the digits of units.
func codeOf(units []uint16) string {
	var octets []byte
	for _, u := range units {
		octets = append(octets, byte(u>>8), byte(u))
	}
	return library().EncodeToString(octets)
}

// expectedCode is the code that is expected of a text that is right.
func expectedCode(t []rune) string { return codeOf(utf16.Encode(t)) }

// expected is what is expected of a text.
func expected(t []rune) answers {
	runs := 0
	// What is no sign becomes one that is in runs, too.
	laid := ampOrRun.ReplaceAllStringFunc(string(t), func(s string) string {
		if s == "&" {
			return "&-"
		}
		runs++
		return "&" + expectedCode([]rune(s)) + "-"
	})
	if !isRight(t) {
		return answers{err: api.ErrScalar, runs: runs}
	}
	return answers{laid, api.OK, runs, expectedCode(t)}
}

// readBack is what is laid, read by the words of RFC 3501.
func readBack(laid string) string {
	return laidRun.ReplaceAllStringFunc(laid, func(s string) string {
		if s == "&-" {
			return "&"
		}
		octets, err := library().Strict().DecodeString(s[1 : len(s)-1])
		if err != nil || len(octets)%2 != 0 {
			panic(s)
		}
		var units []uint16
		for i := 0; i < len(octets); i += 2 {
			units = append(units, uint16(octets[i])<<8|uint16(octets[i+1]))
		}
		return string(utf16.Decode(units))
	})
}

// check holds what the calls answer of a text against what is expected, and what follows.
func check(t *testing.T, text []rune) {
	t.Helper()
	got, want := told(text), expected(text)
	if got != want {
		t.Fatalf("of %X is told %v, want %v", text, got, want)
	}
	if got.err != api.OK {
		return
	}
	if !rightLaid.MatchString(got.laid) {
		t.Fatalf("%X is laid as %q", text, got.laid)
	}
	if read := readBack(got.laid); read != string(text) {
		t.Fatalf("%X is laid as %q, and by the words it is read as %q", text, got.laid, read)
	}
	if read := Read([]byte(got.laid)); !slices.Equal(read, text) {
		t.Fatalf("%X is laid as %q, and read as %X", text, got.laid, read)
	}
	if signs, right := Run([]byte(got.code)); !slices.Equal(signs, text) || !right {
		t.Fatalf("%X has the code %q, of which Run tells %X, %t", text, got.code, signs, right)
	}
}

// oneByOne are octets as signs of the same numbers.
func oneByOne(s []byte) string {
	t := make([]rune, len(s))
	for i, c := range s {
		t[i] = rune(c)
	}
	return string(t)
}

// run is what is told of digits.
type run struct {
	signs []rune
	right bool // what Run tells beside the signs
	over  bool // whether 0xFFFD stands behind the signs in a text
}

// expectedRun tells by a row of bits, one by one, what is expected of digits.
func expectedRun(d string) run {
	if !digits.MatchString(d) {
		return run{}
	}
	var row strings.Builder
	for _, c := range d {
		fmt.Fprintf(&row, "%06b", strings.IndexRune(alphabet, c))
	}
	bits := row.String()
	var units []uint16
	for len(bits) >= 16 {
		u, err := strconv.ParseUint(bits[:16], 2, 16)
		if err != nil {
			panic(err)
		}
		units, bits = append(units, uint16(u)), bits[16:]
	}
	text := utf16.Decode(units)
	// A surrogate that stands alone is laid as another unit.
	right := slices.Equal(utf16.Encode(text), units)
	over := len(bits) >= 6 || strings.Contains(bits, "1")
	return run{text, right && !over, over}
}

// expectedRead is the text that is expected of octets.
func expectedRead(s []byte) []rune {
	var text []rune
	for _, found := range onePiece.FindAllStringSubmatch(oneByOne(s), -1) {
		whole, amp, behind := found[0], found[1], found[2]
		switch {
		case amp != "":
			r := expectedRun(behind)
			text = append(text, r.signs...)
			if r.over {
				text = append(text, 0xFFFD)
			}
		case whole == "&-":
			text = append(text, '&')
		case itself.MatchString(whole):
			text = append(text, rune(whole[0]))
		default:
			text = append(text, 0xFFFD)
		}
	}
	return text
}

// checkRead holds what Read answers against what is expected, and what follows.
func checkRead(t *testing.T, s []byte) {
	t.Helper()
	got := Read(s)
	if want := expectedRead(s); !slices.Equal(got, want) {
		t.Fatalf("Read(%q) = %X, want %X", s, got, want)
	}
	if len(got) > len(s) {
		t.Fatalf("%q has %d signs", s, len(got))
	}
	if !isRight(got) {
		t.Fatalf("Read(%q) = %X, which is no text that is right", s, got)
	}
}

// checkRun holds what Run answers against what is expected, and what follows.
func checkRun(t *testing.T, d []byte) {
	t.Helper()
	got, right := Run(d)
	want := expectedRun(oneByOne(d))
	if !slices.Equal(got, want.signs) || right != want.right {
		t.Fatalf("Run(%q) = %X, %t, want %X, %t", d, got, right, want.signs, want.right)
	}
	if len(got) > len(d) {
		t.Fatalf("Run(%q) has %d signs", d, len(got))
	}
}

// every hands on all lists of these elements of so many of them.
func every[E any](of []E, many int, do func(s []E)) {
	s := make([]E, many)
	var from func(at int)
	from = func(at int) {
		if at == many {
			do(s)
			return
		}
		for _, c := range of {
			s[at] = c
			from(at + 1)
		}
	}
	from(0)
}

// ascii are all numbers below 128.
func ascii() []rune {
	var t []rune
	for c := range rune(128) {
		t = append(t, c)
	}
	return t
}

// allOctets are those from 0 to 255.
func allOctets() []byte {
	var s []byte
	for c := range 256 {
		s = append(s, byte(c))
	}
	return s
}

// someOf is a row of so many of these elements that has no short period.
func someOf[E any](of []E, many int) []E {
	s := make([]E, many)
	x := uint32(many) + 1
	for i := range s {
		x = x*1664525 + 1013904223
		s[i] = of[int(x>>16)%len(of)]
	}
	return s
}

// P24.1

func TestDirect(t *testing.T) {
	const others = " !\"#$%'()*+,-./:;<=>?@[\\]^_`{|}~"
	many := 0
	for c := rune(-300); c <= 0x11FFFF; c++ {
		want := 'a' <= c && c <= 'z' || 'A' <= c && c <= 'Z' || '0' <= c && c <= '9'
		want = want || c >= 0 && c < 128 && strings.ContainsRune(others, c)
		if got := Direct(c); got != want {
			t.Fatalf("Direct(%X) = %t", c, got)
		}
		if want {
			many++
		}
	}
	if many != 126-32+1-1 {
		t.Errorf("%d signs are direct", many)
	}
	for _, c := range slices.Concat(wrongs, []rune{256 + 'A', 1<<16 + 'A', 1<<30 + 'A', -256 + 'A', -1<<31 + 'A', '&', 31, 127}) {
		if Direct(c) {
			t.Errorf("Direct(%X) = true", c)
		}
	}
}

func TestLayCases(t *testing.T) {
	cases := []struct {
		text []rune
		laid string
		runs int
	}{
		{[]rune{'~', 0x53F0, '&'}, "~&U,A-&-", 1},
		{nil, "", 0}, {[]rune("a"), "a", 0}, {[]rune("INBOX"), "INBOX", 0}, {[]rune(" !\"#$%'()*+,-./:;<=>?@[\\]^_`{|}~"), " !\"#$%'()*+,-./:;<=>?@[\\]^_`{|}~", 0},
		// That of RFC 3501.
		{[]rune{'~', 'p', 'e', 't', 'e', 'r', '/', 'm', 'a', 'i', 'l', '/', 0x53F0, 0x5317, '/', 0x65E5, 0x672C, 0x8A9E}, "~peter/mail/&U,BTFw-/&ZeVnLIqe-", 2},
		// An `&` alone, in rows, and ahead of what a reader would take for a run's digits, or its end.
		{[]rune("&"), "&-", 0}, {[]rune("&&"), "&-&-", 0}, {[]rune("&-"), "&--", 0}, {[]rune("&A"), "&-A", 0}, {[]rune("a&b"), "a&-b", 0}, {[]rune("-&-"), "-&--", 0}, {[]rune("R&D"), "R&-D", 0}, {[]rune("&AOk-"), "&-AOk-", 0},
		// An `&` is none of a run, wherever it stands.
		{[]rune("&\u00E9"), "&-&AOk-", 1}, {[]rune("\u00E9&"), "&AOk-&-", 1}, {[]rune("\u00E9&&"), "&AOk-&-&-", 1}, {[]rune("\u00E9&\u00E9"), "&AOk-&-&AOk-", 2}, {[]rune("\u00E9&-"), "&AOk-&--", 1}, {[]rune("&\u00E9&"), "&-&AOk-&-", 1},
		// A sign from 32 to 126 ends a run, whatever it is.
		{[]rune("\u00E9"), "&AOk-", 1}, {[]rune("\u00E9A"), "&AOk-A", 1}, {[]rune("\u00E9-"), "&AOk--", 1}, {[]rune("\u00E9/"), "&AOk-/", 1}, {[]rune("\u00E9,"), "&AOk-,", 1}, {[]rune("\u00E9+"), "&AOk-+", 1}, {[]rune("\u00E9 \u00E9"), "&AOk- &AOk-", 2}, {[]rune("\u00E9~\u00E9"), "&AOk-~&AOk-", 2}, {[]rune("\u00E9a\u00E9"), "&AOk-a&AOk-", 2}, {[]rune("\u00E9-\u00E9"), "&AOk--&AOk-", 2}, {[]rune("=\u00E9="), "=&AOk-=", 1},
		// Signs of one length and another in one run, which is as long as can be.
		{[]rune("\u00E9\u00E9"), "&AOkA6Q-", 1}, {[]rune("\u00E9\u00E9\u00E9"), "&AOkA6QDp-", 1}, {[]rune{0x1F600}, "&2D3eAA-", 1}, {[]rune{0x10000}, "&2ADcAA-", 1}, {[]rune{0x10FFFF}, "&2,,f,w-", 1}, {[]rune{0xFFFF}, "&,,8-", 1}, {[]rune{0xFFFD}, "&,,0-", 1}, {[]rune{0xD7FF, 0xE000}, "&1,,gAA-", 1}, {[]rune{0xFBFF}, "&+,8-", 1}, {[]rune{'a', 0x1F600, 0xE9, 'b'}, "a&2D3eAADp-b", 1},
		// Controls are in runs, 9, 10 and 13, too.
		{[]rune{0}, "&AAA-", 1}, {[]rune{9}, "&AAk-", 1}, {[]rune{13, 10}, "&AA0ACg-", 1}, {[]rune{31}, "&AB8-", 1}, {[]rune{127}, "&AH8-", 1}, {[]rune{128}, "&AIA-", 1}, {[]rune{31, 32, 126, 127}, "&AB8- ~&AH8-", 2},
	}
	for _, x := range cases {
		got, err := Lay(x.text)
		if string(got) != x.laid || err != api.OK {
			t.Errorf("Lay(%X) = %q, %d, want %q", x.text, got, err, x.laid)
		}
		if got := Runs(x.text); got != x.runs {
			t.Errorf("Runs(%X) = %d, want %d", x.text, got, x.runs)
		}
		check(t, x.text)
	}
}

func TestCodeCases(t *testing.T) {
	cases := []struct {
		text []rune
		want string
	}{
		{nil, ""}, {[]rune{0x53F0}, "U,A"}, {[]rune{0x53F0, 0x5317}, "U,BTFw"}, {[]rune("a"), "AGE"}, {[]rune("ab"), "AGEAYg"}, {[]rune("&-"), "ACYALQ"}, {[]rune{0}, "AAA"}, {[]rune{0xFFFF}, ",,8"}, {[]rune{0xFBFF}, "+,8"}, {[]rune{0x1F600}, "2D3eAA"}, {[]rune{'a', 0x1F600}, "AGHYPd4A"},
		{[]rune{0xD800}, ""}, {[]rune{'a', 0xDC00}, ""}, {[]rune{0xD83D, 0xDE00}, ""}, {[]rune{-1}, ""}, {[]rune{0x110000, 'a'}, ""},
	}
	for _, x := range cases {
		if got := Code(x.text); string(got) != x.want {
			t.Errorf("Code(%X) = %q, want %q", x.text, got, x.want)
		}
		check(t, x.text)
	}
}

// What is no sign is refused wherever it stands, though runs are counted.
func TestWrongNumbers(t *testing.T) {
	around := [][]rune{nil, []rune("a"), []rune("&"), []rune("\u00E9"), []rune("a\u00E9"), []rune("\u00E9a"), {0x10FFFF}, {0xFFFD}, []rune(strings.Repeat("a", 100))}
	for _, c := range wrongs {
		for _, ahead := range around {
			for _, behind := range around {
				text := slices.Concat(ahead, []rune{c}, behind)
				s, err := Lay(text)
				if s != nil || err != api.ErrScalar || len(Code(text)) != 0 {
					t.Fatalf("of %X is told %v", text, told(text))
				}
				check(t, text)
			}
		}
	}
	runs := []struct {
		text []rune
		want int
	}{{[]rune{-1}, 1}, {[]rune{0xD800, 0xDC00}, 1}, {[]rune{0xD800, 'a', -1}, 2}, {[]rune{0xD800, '&', -1}, 2}, {[]rune{'a', '&', 0x110000, 0xE9, 'a'}, 1}, {[]rune{'a' - 256}, 1}}
	for _, x := range runs {
		if got := Runs(x.text); got != x.want {
			t.Errorf("Runs(%X) = %d, want %d", x.text, got, x.want)
		}
	}
}

func TestLayEverySign(t *testing.T) {
	for c := rune(-10); c <= 0x110010; c++ {
		// The expectations of each are slow: of all, what is told of one alone.
		got, err := Lay([]rune{c})
		want, wantErr, wantRuns := "", api.OK, 1
		switch {
		case !isRight([]rune{c}):
			wantErr = api.ErrScalar
		case c == '&':
			want, wantRuns = "&-", 0
		case ' ' <= c && c <= '~':
			want, wantRuns = string(c), 0
		default:
			want = "&" + expectedCode([]rune{c}) + "-"
		}
		if string(got) != want || err != wantErr || Runs([]rune{c}) != wantRuns {
			t.Fatalf("Lay(%X) = %q, %d, want %q, %d", c, got, err, want, wantErr)
		}
	}
	for c := rune(-10); c <= 0x800; c++ {
		check(t, []rune{c})
		check(t, []rune{'a', c, 'b'})
		check(t, []rune{0xE9, c, 0xE9})
	}
}

func TestEveryTwoAndThreeSigns(t *testing.T) {
	every(slices.Concat(ascii(), signEdges[10:], wrongs), 2, func(text []rune) { check(t, text) })
	every(slices.Concat(signEdges, wrongs), 3, func(text []rune) { check(t, text) })
}

func TestEveryShortText(t *testing.T) {
	for many := range 8 {
		every([]rune{'A', '-', '&', 0xE9}, many, func(text []rune) { check(t, text) })
	}
	for many := range 6 {
		every([]rune{',', '&', 31, 0x1F600, 0xFFFF, 0xD83D}, many, func(text []rune) { check(t, text) })
	}
}

func TestLongerTexts(t *testing.T) {
	kinds := [][]rune{{'a'}, {'&'}, {0xE9}, {0x1F600}, {'a', 0xE9}, {'&', 0xE9}, {'a', '&', 0xE9}, {'a', 'b', 'c', '-', '&', ',', 0xE9, 0x1F600}, ascii(), signEdges, slices.Concat(signEdges, wrongs[:1])}
	for _, of := range kinds {
		for many := range 200 {
			check(t, someOf(of, many))
		}
	}
}

// Very many signs are laid in a time that grows with them.
func TestVeryLongTexts(t *testing.T) {
	many := 3 << 17
	cases := []struct {
		of, laid string
		runs     int
	}{{"a", "a", 0}, {"&", "&-", 0}, {"a\u00E9", "a&AOk-", 1}, {"\u00E9a", "&AOk-a", 1}, {"\u00E9&", "&AOk-&-", 1}}
	for _, x := range cases {
		text := []rune(strings.Repeat(x.of, many))
		if got, err := Lay(text); string(got) != strings.Repeat(x.laid, many) || err != api.OK {
			t.Errorf("%q, %d times, is laid otherwise", x.of, many)
		}
		if got := Runs(text); got != x.runs*many {
			t.Errorf("%q, %d times, has %d runs", x.of, many, got)
		}
	}
	for _, of := range []string{"\u00E9", "\x7F\n", "\U0001F600"} {
		text := []rune(strings.Repeat(of, many))
		want := "&" + expectedCode(text) + "-"
		if got, err := Lay(text); string(got) != want || err != api.OK || Runs(text) != 1 {
			t.Errorf("%q, %d times, is laid otherwise", of, many)
		}
	}
}

// P24.2

func TestRunCases(t *testing.T) {
	cases := []struct {
		d     string
		want  []rune
		right bool
	}{
		{"", nil, true}, {"U,A", []rune{0x53F0}, true}, {"U,BTFw", []rune{0x53F0, 0x5317}, true}, {"AGE", []rune("a"), true}, {"AGEAYg", []rune("ab"), true}, {"ACY", []rune("&"), true}, {"AAA", []rune{0}, true}, {",,8", []rune{0xFFFF}, true}, {",,0", []rune{0xFFFD}, true}, {"ZeVnLIqe", []rune{0x65E5, 0x672C, 0x8A9E}, true}, {"+,8", []rune{0xFBFF}, true},
		// Two surrogates are one sign, one that stands alone is none.
		{"2D3eAA", []rune{0x1F600}, true}, {"2ADcAA", []rune{0x10000}, true}, {"2,,f,w", []rune{0x10FFFF}, true}, {"1,,gAA", []rune{0xD7FF, 0xE000}, true}, {"2AA", []rune{0xFFFD}, false}, {"3AA", []rune{0xFFFD}, false}, {"2D0AYQ", []rune{0xFFFD, 'a'}, false}, {"AGHYPQ", []rune{'a', 0xFFFD}, false}, {"3gDYPQ", []rune{0xFFFD, 0xFFFD}, false}, {"2D3YPd4A", []rune{0xFFFD, 0x1F600}, false}, {"2D3eAN4A", []rune{0x1F600, 0xFFFD}, false},
		// One, two, four, five and seven digits leave over six bits or more, though they are 0.
		{"A", nil, false}, {"AA", nil, false}, {",", nil, false}, {",,", nil, false}, {"AB", nil, false}, {"AGEA", []rune("a"), false}, {"AGEAA", []rune("a"), false}, {"AGEAYgA", []rune("ab"), false}, {"AGEAYgAA", []rune{'a', 'b', 0}, true}, {"AGEAYgAAA", []rune{'a', 'b', 0}, false},
		// Fewer bits that are left over must be 0: two of three digits, four of six.
		{"AGF", []rune("a"), false}, {"AGG", []rune("a"), false}, {"AGH", []rune("a"), false}, {"AGI", []rune("b"), true}, {"AGEAYh", []rune("ab"), false}, {"AGEAYi", []rune("ab"), false}, {"AGEAYk", []rune("ab"), false}, {"AGEAYo", []rune("ab"), false}, {"AGEAYw", []rune{'a', 'c'}, true},
		// A surrogate that stands alone is the one 0xFFFD that Run tells of it, whatever is left over.
		{"2AB", []rune{0xFFFD}, false}, {"2AAA", []rune{0xFFFD}, false}, {"3AB", []rune{0xFFFD}, false}, {",,0A", []rune{0xFFFD}, false},
		// The digit of layer 14 in the place of `,` is none here, and of octets that are no digits there is nothing.
		{"/", nil, false}, {"//8", nil, false}, {"U/A", nil, false}, {"AGE/", nil, false}, {"/AGE", nil, false},
		{"=", nil, false}, {"-", nil, false}, {"&", nil, false}, {"AGE-", nil, false}, {"AGE=", nil, false}, {"&AGE", nil, false}, {" AGE", nil, false}, {"AG E", nil, false}, {"AG\nE", nil, false}, {"AGE\x00", nil, false}, {"\x80AGE", nil, false}, {"AG\xFFE", nil, false}, {"\u0130GE", nil, false}, {"AGE.", nil, false},
	}
	for _, x := range cases {
		got, right := Run([]byte(x.d))
		if !slices.Equal(got, x.want) || right != x.right {
			t.Errorf("Run(%q) = %X, %t, want %X, %t", x.d, got, right, x.want, x.right)
		}
		checkRun(t, []byte(x.d))
		checkRead(t, []byte("&"+x.d+"-"))
	}
}

func TestRunOfEveryTwoOctetsAndThreeDigits(t *testing.T) {
	for many := range 3 {
		every(allOctets(), many, func(d []byte) { checkRun(t, d) })
	}
	every([]byte(alphabet), 3, func(d []byte) { checkRun(t, d) })
	for many := range 9 {
		every([]byte("AQ3,"), many, func(d []byte) {
			checkRun(t, d)
			checkRead(t, append([]byte{'&'}, d...))
		})
	}
}

func TestRunOfEveryOctetAtEachPlace(t *testing.T) {
	for _, right := range []string{"U,BTFw", "2D3eAADp", "AGE"} {
		for at := range len(right) + 1 {
			for _, c := range allOctets() {
				checkRun(t, []byte(right[:at]+string([]byte{c})+right[at:]))
				if at < len(right) {
					checkRun(t, []byte(right[:at]+string([]byte{c})+right[at+1:]))
				}
			}
		}
	}
}

// Each unit alone, and with each number in the bits that are left over: Run tells
// the unit's sign, and in a text 0xFFFD stands behind it.
func TestRunOfEveryUnit(t *testing.T) {
	for u := range 1 << 16 {
		right := codeOf([]uint16{uint16(u)})
		last := strings.IndexByte(alphabet, right[2])
		surrogate := 0xD800 <= u && u <= 0xDFFF
		sign := rune(u)
		if surrogate {
			sign = 0xFFFD
		}
		for over := range 4 {
			s := []byte{'&', right[0], right[1], alphabet[last+over], '-'}
			got, ok := Run(s[1:4])
			if len(got) != 1 || got[0] != sign || ok != (over == 0 && !surrogate) {
				t.Fatalf("of the unit %X, with %d left over, Run tells %X, %t", u, over, got, ok)
			}
			want := []rune{sign, 0xFFFD}
			if over == 0 {
				want = want[:1]
			}
			if text := Read(s); !slices.Equal(text, want) {
				t.Fatalf("of the unit %X, with %d left over, Read tells %X", u, over, text)
			}
		}
	}
}

func TestRunOfSurrogates(t *testing.T) {
	for many := range 5 {
		every(halves, many, func(u []uint16) {
			d := codeOf(u)
			for _, behind := range []string{"", "A", "AB"} {
				checkRun(t, []byte(d+behind))
				checkRead(t, []byte("&"+d+behind+"."))
			}
		})
	}
	for first := uint16(0xD800); first <= 0xDBFF; first++ {
		for _, second := range []uint16{0xDC00, 0xDC00 | first&0x3FF, 0xDFFF} {
			want := 0x10000 + rune(first-0xD800)<<10 + rune(second-0xDC00)
			if got, right := Run([]byte(codeOf([]uint16{first, second}))); len(got) != 1 || got[0] != want || !right {
				t.Fatalf("of %X and %X Run tells %X, %t", first, second, got, right)
			}
		}
	}
}

// Layer 23 tells the same of the same digits of layer 14.
func TestRunAsLayer23(t *testing.T) {
	for many := range 100 {
		d := someOf([]byte(alphabet), many)
		got, right := Run(d)
		want, wantRight := sread.Run(bmod.Usual(d))
		if !slices.Equal(got, want) || right != wantRight {
			t.Errorf("Run(%q) = %X, %t, and layer 23 tells %X, %t", d, got, right, want, wantRight)
		}
	}
}

func TestReadCases(t *testing.T) {
	cases := []struct {
		s    string
		want []rune
	}{
		{"~&U,A-&-", []rune{'~', 0x53F0, '&'}}, {"~&U,A&-", []rune{'~', 0x53F0, '&'}},
		{"", nil}, {"a", []rune("a")}, {"INBOX", []rune("INBOX")}, {"~peter/mail/&U,BTFw-/&ZeVnLIqe-", []rune{'~', 'p', 'e', 't', 'e', 'r', '/', 'm', 'a', 'i', 'l', '/', 0x53F0, 0x5317, '/', 0x65E5, 0x672C, 0x8A9E}},
		// An `&` ahead of a `-` is itself, and ahead of what is neither `-` nor a digit it is 0xFFFD.
		{"&-", []rune("&")}, {"&-&-", []rune("&&")}, {"&--", []rune("&-")}, {"a&-b", []rune("a&b")}, {"&-AGE-", []rune("&AGE-")}, {"&", []rune{0xFFFD}}, {"a&", []rune{'a', 0xFFFD}}, {"&&", []rune{0xFFFD, 0xFFFD}}, {"&&-", []rune{0xFFFD, '&'}}, {"&&AOk-", []rune{0xFFFD, 0xE9}}, {"& ", []rune{0xFFFD, ' '}}, {"&.", []rune{0xFFFD, '.'}}, {"&=", []rune{0xFFFD, '='}}, {"&\x00", []rune{0xFFFD, 0xFFFD}}, {"&\x80", []rune{0xFFFD, 0xFFFD}}, {"&.AOk-", []rune("\uFFFD.AOk-")},
		// The digits are those of layer 17: `,` is one, `/` is none.
		{"&,,8-", []rune{0xFFFF}}, {"&,-", []rune{0xFFFD}}, {"&,", []rune{0xFFFD}}, {"&/", []rune{0xFFFD, '/'}}, {"&//8-", []rune("\uFFFD//8-")}, {"&AOk/-", []rune("\u00E9/-")}, {"&AOk,-", []rune{0xE9, 0xFFFD}}, {"&+,8-", []rune{0xFBFF}}, {"&+-", []rune{0xFFFD}}, {"&+", []rune{0xFFFD}}, {"+AOk-", []rune("+AOk-")}, {"+-", []rune("+-")}, {"&AOk+AOk-", []rune{0xE9, 0x3E00, 0xFFFD}},
		// One `-` behind the digits is dropped, anything else that ends a run is told.
		{"&AOk", []rune{0xE9}}, {"&AOk-", []rune{0xE9}}, {"&AOk--", []rune{0xE9, '-'}}, {"&AOk---", []rune{0xE9, '-', '-'}}, {"&AOk-AOk-", []rune("\u00E9AOk-")}, {"&AOk.", []rune{0xE9, '.'}}, {"&AOk.-", []rune("\u00E9.-")}, {"&AOk=", []rune{0xE9, '='}}, {"&AOk\r\n", []rune{0xE9, 0xFFFD, 0xFFFD}}, {"&AOk\x00-", []rune{0xE9, 0xFFFD, '-'}}, {"&AOk\x80-", []rune{0xE9, 0xFFFD, '-'}},
		{"&AOk&AOk", []rune{0xE9, 0xE9}}, {"&AOk-&AOk-", []rune{0xE9, 0xE9}}, {"&AOk- &AOk", []rune("\u00E9 \u00E9")}, {"&AOk&-", []rune{0xE9, '&'}}, {"&AOk-&", []rune{0xE9, 0xFFFD}}, {"&AOk&", []rune{0xE9, 0xFFFD}}, {"&-&AOk-", []rune{'&', 0xE9}},
		// What is left over of a run.
		{"&A", []rune{0xFFFD}}, {"&A-", []rune{0xFFFD}}, {"&AA-", []rune{0xFFFD}}, {"&AAA-", []rune{0}}, {"&AGF-", []rune{'a', 0xFFFD}}, {"&AGEA.", []rune{'a', 0xFFFD, '.'}}, {"&2AB-", []rune{0xFFFD, 0xFFFD}}, {"&2AAA-", []rune{0xFFFD, 0xFFFD}}, {"&2D0-", []rune{0xFFFD}}, {"&3gA-", []rune{0xFFFD}}, {"&2D3eAA-", []rune{0x1F600}}, {"&A-&AOk-", []rune{0xFFFD, 0xE9}}, {"&AOkA-a", []rune{0xE9, 0xFFFD, 'a'}},
		// Surrogates of two runs are none of one sign, and bits are not put together either.
		{"&2D0-&3gA-", []rune{0xFFFD, 0xFFFD}}, {"&2D0&3gA", []rune{0xFFFD, 0xFFFD}}, {"&2D3e-&AA-", []rune{0xFFFD, 0xFFFD, 0xFFFD}}, {"&AO-k-", []rune{0xFFFD, 'k', '-'}},
		// A run may have what needs none, and controls.
		{"&AGE-", []rune("a")}, {"&ACY-", []rune("&")}, {"&AGEAYg", []rune("ab")}, {"&AAAACQANAAo-", []rune{0, 9, 13, 10}},
		// Octets that are neither from 32 to 126, each for itself.
		{"\x00", []rune{0xFFFD}}, {"\t", []rune{0xFFFD}}, {"\r\n", []rune{0xFFFD, 0xFFFD}}, {"\x1F ~\x7F", []rune{0xFFFD, ' ', '~', 0xFFFD}}, {"\x80", []rune{0xFFFD}}, {"\xFF", []rune{0xFFFD}}, {"\u00E9", []rune{0xFFFD, 0xFFFD}}, {"a\xE9b", []rune{'a', 0xFFFD, 'b'}}, {"\xA6-", []rune{0xFFFD, '-'}}, {" !\"#$%'()*+,-./:;<=>?@[\\]^_`{|}~", []rune(" !\"#$%'()*+,-./:;<=>?@[\\]^_`{|}~")},
	}
	for _, x := range cases {
		if got := Read([]byte(x.s)); !slices.Equal(got, x.want) {
			t.Errorf("Read(%q) = %X, want %X", x.s, got, x.want)
		}
		checkRead(t, []byte(x.s))
	}
}

func TestReadEveryTwoAndThreeOctets(t *testing.T) {
	for many := range 3 {
		every(allOctets(), many, func(s []byte) { checkRead(t, s) })
	}
	every(octetEdges, 3, func(s []byte) { checkRead(t, s) })
}

// Each octet behind an `&`, in a run, behind its digits, and behind its end.
func TestReadEveryOctetAtEachPlace(t *testing.T) {
	for _, right := range []string{"a&-b", "&AOk-", "a&AOk-&2D3eAA--", "~&U,A."} {
		for at := range len(right) + 1 {
			for _, c := range allOctets() {
				checkRead(t, []byte(right[:at]+string([]byte{c})+right[at:]))
				if at < len(right) {
					checkRead(t, []byte(right[:at]+string([]byte{c})+right[at+1:]))
				}
			}
		}
	}
}

func TestReadEveryShortList(t *testing.T) {
	for many := range 8 {
		every([]byte("A&-."), many, func(s []byte) { checkRead(t, s) })
	}
	for many := range 7 {
		every([]byte("Q,&-/\xE9"), many, func(s []byte) { checkRead(t, s) })
	}
	// Runs of a few digits, closed or not, one behind the other.
	pieces := []string{"&", "-", "AOk", "AOl", "2D0", "3gA", "A", ".", "\xFF"}
	for many := range 5 {
		every(pieces, many, func(s []string) { checkRead(t, []byte(strings.Join(s, ""))) })
	}
}

func TestReadLongerLists(t *testing.T) {
	kinds := []string{"a", "&", "-", "&-", "A&", "A&-", "AQ&-.", "\x80&A", alphabet, alphabet + "-", alphabet + "-&&&", string(allOctets()), string(octetEdges)}
	for _, of := range kinds {
		for many := range 200 {
			s := someOf([]byte(of), many)
			checkRead(t, s)
			checkRead(t, append([]byte{'&'}, s...))
			checkRun(t, s)
		}
	}
}

// Very many octets are read in a time that grows with them.
func TestReadVeryLongLists(t *testing.T) {
	many := 3 << 17
	cases := []struct{ of, read string }{{"a", "a"}, {"&-", "&"}, {"&", "\uFFFD"}, {"&AOk-", "\u00E9"}, {"&AOk", "\u00E9"}, {"&AOk.", "\u00E9."}, {"& ", "\uFFFD "}, {"&A-", "\uFFFD"}, {"\x80", "\uFFFD"}}
	for _, x := range cases {
		if got := Read([]byte(strings.Repeat(x.of, many))); string(got) != strings.Repeat(x.read, many) {
			t.Errorf("%q, %d times, is read otherwise", x.of, many)
		}
	}
	d := []byte(strings.Repeat("2D3eAADp", many))
	want := []rune(strings.Repeat("\U0001F600\u00E9", many))
	if got, right := Run(d); !slices.Equal(got, want) || !right {
		t.Error("very many digits are read otherwise")
	}
	if got := Read(append([]byte{'&'}, d...)); !slices.Equal(got, want) {
		t.Error("a very long run is read otherwise")
	}
}

// P24.3: check asks it of all texts that it is handed; here each sign, in rows, too.
func TestEverySignIsRead(t *testing.T) {
	var row []rune
	for c := rune(0); c <= 0x10FFFF; c++ {
		if !isRight([]rune{c}) {
			continue
		}
		s, err := Lay([]rune{c})
		if got := Read(s); len(got) != 1 || got[0] != c || err != api.OK {
			t.Fatalf("%X is laid as %q, and read as %X, %d", c, s, got, err)
		}
		row = append(row, c)
		if len(row) == 997 || c == 0x10FFFF {
			check(t, row)
			row = row[:0]
		}
	}
}

// P24.4: checkRead and checkRun ask it of all that they are handed; here the most that there may be.
func TestAsManySignsAsOctets(t *testing.T) {
	for _, s := range []string{"", "a", "&", "\x80", "& ", "a&", "&\xFF", "abc\x00\xFF&", "&&&"} {
		if got := Read([]byte(s)); len(got) != len(s) {
			t.Errorf("%q has %d signs", s, len(got))
		}
	}
	for many := range 60 {
		for _, digit := range []string{"A", ",", "+", "2"} {
			d := strings.Repeat(digit, many)
			checkRead(t, []byte("&"+d))
			checkRun(t, []byte(d))
		}
	}
}
