package sread

import (
	"encoding/base64"
	"fmt"
	"regexp"
	"slices"
	"strconv"
	"strings"
	"testing"
	"unicode/utf16"

	"sheave/api"
	"sheave/useven"
)

// alphabet writes the digits out, in their order.
const alphabet = "ABCDEFGHIJKLMNOPQRSTUVWXYZabcdefghijklmnopqrstuvwxyz0123456789+/"

// The words of the document as patterns, over octets that are signs of the same numbers.
var (
	onePiece = regexp.MustCompile(`(?s)\+-|(\+)([A-Za-z0-9+/]+)-?|.`)
	digits   = regexp.MustCompile(`^[A-Za-z0-9+/]*$`)
	alone    = regexp.MustCompile(`^\+$|[^\x00-\x7F]`)
)

// edges are octets that stand beside others of another kind.
var edges = []byte("A/+-=09z,. \x00\x1F\x7F\x80\xC3\xA9\xFF\r\n")

// halves are units that stand beside others of another kind.
var halves = []uint16{0, 'A', 0x20AC, 0xD7FF, 0xD800, 0xDBFF, 0xDC00, 0xDFFF, 0xE000, 0xFFFD, 0xFFFF}

// answers are what the calls tell of octets.
type answers struct {
	read, strict string
	err          api.Errno
	shifts       int
	again        string
	againErr     api.Errno
}

func (a answers) String() string {
	return fmt.Sprintf("read %+q, strictly %+q, %d, %d runs, laid again %q, %d", a.read, a.strict, a.err, a.shifts, a.again, a.againErr)
}

// numbers writes a text by its numbers, as what is no scalar value would be lost otherwise.
func numbers(t []rune) string {
	var b strings.Builder
	for _, c := range t {
		fmt.Fprintf(&b, "%X ", c)
	}
	return b.String()
}

// told is what the calls answer of octets.
func told(s []byte) answers {
	strict, err := Strict(s)
	again, againErr := Again(s)
	return answers{numbers(Read(s)), numbers(strict), err, Shifts(s), string(again), againErr}
}

// oneByOne are octets as signs of the same numbers.
func oneByOne(s []byte) string {
	t := make([]rune, len(s))
	for i, c := range s {
		t[i] = rune(c)
	}
	return string(t)
}

// run is what is told of digits.
type run struct {
	signs []rune
	right bool // what Run tells beside the signs
	over  bool // whether 0xFFFD stands behind the signs in a text
}

// expectedRun tells by a row of bits, one by one, what is expected of digits.
func expectedRun(d string) run {
	if !digits.MatchString(d) {
		return run{}
	}
	bits := ""
	for _, c := range d {
		bits += fmt.Sprintf("%06b", strings.IndexRune(alphabet, c))
	}
	var units []uint16
	for len(bits) >= 16 {
		u, err := strconv.ParseUint(bits[:16], 2, 16)
		if err != nil {
			panic(err)
		}
		units, bits = append(units, uint16(u)), bits[16:]
	}
	text := utf16.Decode(units)
	// A surrogate that stands alone is laid as another unit.
	right := slices.Equal(utf16.Encode(text), units)
	over := len(bits) >= 6 || strings.Contains(bits, "1")
	return run{text, right && !over, over}
}

// expected is what is expected of octets.
func expected(s []byte) answers {
	var text []rune
	shifts, right := 0, true
	for _, found := range onePiece.FindAllStringSubmatch(oneByOne(s), -1) {
		whole, plus, behind := found[0], found[1], found[2]
		switch {
		case plus != "":
			r := expectedRun(behind)
			text, right = append(text, r.signs...), right && r.right
			if r.over {
				text = append(text, 0xFFFD)
			}
			shifts++
		case whole == "+-":
			text = append(text, '+')
		case whole[0] > 127:
			text, right = append(text, 0xFFFD), false
		default:
			text, right = append(text, rune(whole[0])), right && !alone.MatchString(whole)
		}
	}
	laid, err := useven.Lay(text)
	if err != api.OK {
		panic("the tests expect what is no text")
	}
	want := answers{read: numbers(text), err: api.ErrForm, shifts: shifts, again: string(laid)}
	if right {
		want.strict, want.err = want.read, api.OK
	}
	return want
}

// check holds what the calls answer against what is expected, and what follows.
func check(t *testing.T, s []byte) {
	t.Helper()
	got, want := told(s), expected(s)
	if got != want {
		t.Fatalf("of %q is told %v, want %v", s, got, want)
	}
	if many := len(Read(s)); many > len(s) {
		t.Fatalf("%q has %d signs", s, many)
	}
}

// checkRun holds what Run answers against what is expected, and what follows.
func checkRun(t *testing.T, d []byte) {
	t.Helper()
	got, right := Run(d)
	want := expectedRun(oneByOne(d))
	if !slices.Equal(got, want.signs) || right != want.right {
		t.Fatalf("Run(%q) = %X, %t, want %X, %t", d, got, right, want.signs, want.right)
	}
	if len(got) > len(d) {
		t.Fatalf("Run(%q) has %d signs", d, len(got))
	}
}

// code are the digits of units.
func code(units []uint16) string {
	var octets []byte
	for _, u := range units {
		octets = append(octets, byte(u>>8), byte(u))
	}
	return base64.RawStdEncoding.EncodeToString(octets)
}

// every hands on all lists of these elements of so many of them.
func every[E any](of []E, many int, do func(s []E)) {
	s := make([]E, many)
	var from func(at int)
	from = func(at int) {
		if at == many {
			do(s)
			return
		}
		for _, c := range of {
			s[at] = c
			from(at + 1)
		}
	}
	from(0)
}

// allOctets are those from 0 to 255.
func allOctets() []byte {
	var s []byte
	for c := range 256 {
		s = append(s, byte(c))
	}
	return s
}

// someOf is a row of so many of these elements that has no short period.
func someOf[E any](of []E, many int) []E {
	s := make([]E, many)
	x := uint32(many) + 1
	for i := range s {
		x = x*1664525 + 1013904223
		s[i] = of[int(x>>16)%len(of)]
	}
	return s
}

// rooms stand behind octets, so that a run would go on there, or be closed.
func rooms() []string { return []string{"AOk-", "-AOk"} }

// roomy are octets with such a room behind their end.
func roomy(s []byte, room string) []byte {
	return []byte(string(s) + room)[:len(s)]
}

// untouched tells whether such octets and their room are as they were.
func untouched(s, as []byte, room string) bool {
	return string(s[:len(s)+len(room)]) == string(as)+room
}

// writeOver fills a list to its capacity, so that memory that is shared shows.
func writeOver[E any](s []E, with E) {
	s = s[:cap(s)]
	for i := range s {
		s[i] = with
	}
}

// P23.1

func TestRunCases(t *testing.T) {
	cases := []struct {
		d     string
		want  []rune
		right bool
	}{
		{"", nil, true}, {"ImIDkQ", []rune{0x2262, 0x391}, true}, {"AGE", []rune("a"), true}, {"AGEAYg", []rune("ab"), true}, {"ACs", []rune("+"), true}, {"AAA", []rune{0}, true}, {"//8", []rune{0xFFFF}, true}, {"//0", []rune{0xFFFD}, true}, {"ZeVnLIqe", []rune{0x65E5, 0x672C, 0x8A9E}, true}, {"+/8", []rune{0xFBFF}, true},
		// Two surrogates are one sign, one that stands alone is none.
		{"2D3eAA", []rune{0x1F600}, true}, {"2ADcAA", []rune{0x10000}, true}, {"2//f/w", []rune{0x10FFFF}, true}, {"1//gAA", []rune{0xD7FF, 0xE000}, true}, {"2AA", []rune{0xFFFD}, false}, {"3AA", []rune{0xFFFD}, false}, {"2D0AYQ", []rune{0xFFFD, 'a'}, false}, {"AGHYPQ", []rune{'a', 0xFFFD}, false}, {"3gDYPQ", []rune{0xFFFD, 0xFFFD}, false}, {"2D3YPd4A", []rune{0xFFFD, 0x1F600}, false}, {"2D3eAN4A", []rune{0x1F600, 0xFFFD}, false},
		// One, two, four, five and seven digits leave over six bits or more, though they are 0.
		{"A", nil, false}, {"AA", nil, false}, {"/", nil, false}, {"//", nil, false}, {"AB", nil, false}, {"AGEA", []rune("a"), false}, {"AGEAA", []rune("a"), false}, {"AGEAYgA", []rune("ab"), false}, {"AGEAYgAA", []rune{'a', 'b', 0}, true}, {"AGEAYgAAA", []rune{'a', 'b', 0}, false},
		// Fewer bits that are left over must be 0: two of three digits, four of six.
		{"AGF", []rune("a"), false}, {"AGG", []rune("a"), false}, {"AGH", []rune("a"), false}, {"AGI", []rune("b"), true}, {"AGEAYh", []rune("ab"), false}, {"AGEAYi", []rune("ab"), false}, {"AGEAYk", []rune("ab"), false}, {"AGEAYo", []rune("ab"), false}, {"AGEAYw", []rune{'a', 'c'}, true},
		// A surrogate that stands alone is the one 0xFFFD that Run tells of it, whatever is left over.
		{"2AB", []rune{0xFFFD}, false}, {"2AAA", []rune{0xFFFD}, false}, {"3AB", []rune{0xFFFD}, false}, {"//0A", []rune{0xFFFD}, false},
		// Of octets that are no digits there is nothing.
		{"=", nil, false}, {"-", nil, false}, {"AGE-", nil, false}, {"AGE=", nil, false}, {",,8", nil, false}, {" AGE", nil, false}, {"AG E", nil, false}, {"AG\nE", nil, false}, {"AGE\x00", nil, false}, {"\x80AGE", nil, false}, {"AG\xFFE", nil, false}, {"\u0130GE", nil, false}, {"AGE.", nil, false},
	}
	for _, x := range cases {
		got, right := Run([]byte(x.d))
		if !slices.Equal(got, x.want) || right != x.right {
			t.Errorf("Run(%q) = %X, %t, want %X, %t", x.d, got, right, x.want, x.right)
		}
		checkRun(t, []byte(x.d))
		check(t, []byte("+"+x.d+"-"))
	}
}

func TestRunOfEveryTwoOctetsAndThreeDigits(t *testing.T) {
	for many := range 3 {
		every(allOctets(), many, func(d []byte) { checkRun(t, d) })
	}
	every([]byte(alphabet), 3, func(d []byte) { checkRun(t, d) })
	for many := range 9 {
		every([]byte("AQ3/"), many, func(d []byte) {
			checkRun(t, d)
			check(t, append([]byte{'+'}, d...))
		})
	}
}

func TestRunOfEveryOctetAtEachPlace(t *testing.T) {
	for _, right := range []string{"ImIDkQ", "2D3eAADp", "AGE"} {
		for at := range len(right) + 1 {
			for _, c := range allOctets() {
				checkRun(t, []byte(right[:at]+string([]byte{c})+right[at:]))
				if at < len(right) {
					checkRun(t, []byte(right[:at]+string([]byte{c})+right[at+1:]))
				}
			}
		}
	}
}

// Each unit alone, and with each number in the bits that are left over: Run tells
// the unit's sign, and in a text 0xFFFD stands behind it.
func TestRunOfEveryUnit(t *testing.T) {
	for u := range 1 << 16 {
		right := code([]uint16{uint16(u)})
		last := strings.IndexByte(alphabet, right[2])
		surrogate := 0xD800 <= u && u <= 0xDFFF
		sign := rune(u)
		if surrogate {
			sign = 0xFFFD
		}
		for over := range 4 {
			s := []byte{'+', right[0], right[1], alphabet[last+over], '-'}
			got, ok := Run(s[1:4])
			if len(got) != 1 || got[0] != sign || ok != (over == 0 && !surrogate) {
				t.Fatalf("of the unit %X, with %d left over, Run tells %X, %t", u, over, got, ok)
			}
			want := []rune{sign, 0xFFFD}
			if over == 0 {
				want = want[:1]
			}
			if text := Read(s); !slices.Equal(text, want) {
				t.Fatalf("of the unit %X, with %d left over, Read tells %X", u, over, text)
			}
		}
	}
}

func TestRunOfSurrogates(t *testing.T) {
	for many := range 5 {
		every(halves, many, func(u []uint16) {
			d := code(u)
			for _, behind := range []string{"", "A", "AB"} {
				checkRun(t, []byte(d+behind))
				check(t, []byte("+"+d+behind+"."))
			}
		})
	}
	for first := uint16(0xD800); first <= 0xDBFF; first++ {
		for _, second := range []uint16{0xDC00, 0xDC00 | first&0x3FF, 0xDFFF} {
			want := 0x10000 + rune(first-0xD800)<<10 + rune(second-0xDC00)
			if got, right := Run([]byte(code([]uint16{first, second}))); len(got) != 1 || got[0] != want || !right {
				t.Fatalf("of %X and %X Run tells %X, %t", first, second, got, right)
			}
		}
	}
}

func TestReadCases(t *testing.T) {
	cases := []struct {
		s      string
		want   []rune
		shifts int
		right  bool
	}{
		{"A+ImIDkQ.", []rune{'A', 0x2262, 0x391, '.'}, 1, true}, {"A+ImIDkQ-.", []rune{'A', 0x2262, 0x391, '.'}, 1, true},
		{"", nil, 0, true}, {"a", []rune("a"), 0, true}, {"Hi Mom -+Jjo--!", []rune{'H', 'i', ' ', 'M', 'o', 'm', ' ', '-', 0x263A, '-', '!'}, 1, true}, {"+ZeVnLIqe-", []rune{0x65E5, 0x672C, 0x8A9E}, 1, true}, {"Item 3 is +AKM-1.", []rune("Item 3 is \u00A31."), 1, true},
		// A `+` ahead of a `-` is itself, and so it is ahead of what is neither `-` nor a digit.
		{"+-", []rune("+"), 0, true}, {"+-+-", []rune("++"), 0, true}, {"+--", []rune("+-"), 0, true}, {"a+-b", []rune("a+b"), 0, true}, {"+-AGE-", []rune("+AGE-"), 0, true}, {"+", []rune("+"), 0, false}, {"a+", []rune("a+"), 0, false}, {"+ ", []rune("+ "), 0, false}, {"+.", []rune("+."), 0, false}, {"+=", []rune("+="), 0, false}, {"+,", []rune("+,"), 0, false}, {"+\r\n", []rune("+\r\n"), 0, false}, {"+ +-", []rune("+ +"), 0, false}, {"+\x00", []rune("+\x00"), 0, false}, {"+\x80", []rune{'+', 0xFFFD}, 0, false}, {"+.AOk-", []rune("+.AOk-"), 0, false},
		// A `+` is a digit, and so it begins no run in one.
		{"++-", []rune{0xFFFD}, 1, false}, {"++", []rune{0xFFFD}, 1, false}, {"+++", []rune{0xFFFD}, 1, false}, {"++/8", []rune{0xFBFF}, 1, true}, {"++/8-", []rune{0xFBFF}, 1, true}, {"++/9-", []rune{0xFBFF, 0xFFFD}, 1, false}, {"++AA-", []rune{0xF800}, 1, true}, {"++++", []rune{0xFBEF, 0xFFFD}, 1, false}, {"+AOk+AOk-", []rune{0xE9, 0x3E00, 0xFFFD}, 1, false}, {"+AGEAYg+-", []rune{'a', 'b', 0xFFFD}, 1, false}, {"/+AOk-/", []rune("/\u00E9/"), 1, true},
		// One `-` behind the digits is dropped, anything else that ends a run is a sign.
		{"+AOk", []rune{0xE9}, 1, true}, {"+AOk-", []rune{0xE9}, 1, true}, {"+AOk--", []rune{0xE9, '-'}, 1, true}, {"+AOk---", []rune{0xE9, '-', '-'}, 1, true}, {"+AOk-AOk-", []rune("\u00E9AOk-"), 1, true}, {"+AOk.", []rune{0xE9, '.'}, 1, true}, {"+AOk.-", []rune("\u00E9.-"), 1, true}, {"+AOk=", []rune{0xE9, '='}, 1, true}, {"+AOk=-", []rune("\u00E9=-"), 1, true}, {"+AOk \r\n", []rune("\u00E9 \r\n"), 1, true}, {"+AOk\x00", []rune("\u00E9\x00"), 1, true}, {"+AOk\x80", []rune{0xE9, 0xFFFD}, 1, false}, {"+AOk\x80-", []rune{0xE9, 0xFFFD, '-'}, 1, false},
		{"+AOk-+AOk-", []rune{0xE9, 0xE9}, 2, true}, {"+AOk- +AOk", []rune("\u00E9 \u00E9"), 2, true}, {"+AOk-+-", []rune{0xE9, '+'}, 1, true}, {"+AOk-+", []rune{0xE9, '+'}, 1, false}, {"+-+AOk-", []rune{'+', 0xE9}, 1, true}, {"+AOk,+AOk", []rune("\u00E9,\u00E9"), 2, true},
		// A run that is not right.
		{"+A", []rune{0xFFFD}, 1, false}, {"+A-", []rune{0xFFFD}, 1, false}, {"+/", []rune{0xFFFD}, 1, false}, {"+AGF-", []rune{'a', 0xFFFD}, 1, false}, {"+AGEA.", []rune{'a', 0xFFFD, '.'}, 1, false}, {"+2AB-", []rune{0xFFFD, 0xFFFD}, 1, false}, {"+2AAA-", []rune{0xFFFD, 0xFFFD}, 1, false}, {"+AA-", []rune{0xFFFD}, 1, false}, {"+AAA-", []rune{0}, 1, true}, {"+AOl-", []rune{0xE9, 0xFFFD}, 1, false}, {"+AOkA-a", []rune{0xE9, 0xFFFD, 'a'}, 1, false}, {"+2D0-", []rune{0xFFFD}, 1, false}, {"+3gA-", []rune{0xFFFD}, 1, false}, {"+2D3eAA-", []rune{0x1F600}, 1, true}, {"+A-+AOk-", []rune{0xFFFD, 0xE9}, 2, false}, {"a/b 1+1", []rune{'a', '/', 'b', ' ', '1', 0xFFFD}, 1, false},
		// Surrogates of two runs are none of one sign, and bits are not put together either.
		{"+2D0-+3gA-", []rune{0xFFFD, 0xFFFD}, 2, false}, {"+2D3e-+AA-", []rune{0xFFFD, 0xFFFD, 0xFFFD}, 2, false}, {"+AO-k-", []rune{0xFFFD, 'k', '-'}, 1, false},
		// A run may have what needs none.
		{"+AGE-", []rune("a"), 1, true}, {"+ACs-", []rune("+"), 1, true}, {"+AGEAYg", []rune("ab"), 1, true},
		// Octets above 127, each for itself; all below are signs, controls and those that are not direct, too.
		{"\x80", []rune{0xFFFD}, 0, false}, {"\xFF", []rune{0xFFFD}, 0, false}, {"\u00E9", []rune{0xFFFD, 0xFFFD}, 0, false}, {"a\xE9b", []rune{'a', 0xFFFD, 'b'}, 0, false}, {"\u20AC-", []rune{0xFFFD, 0xFFFD, 0xFFFD, '-'}, 0, false}, {"\xAB-", []rune{0xFFFD, '-'}, 0, false}, {"\x00\x01\x1B\x7F", []rune("\x00\x01\x1B\x7F"), 0, true}, {"~\\={}<>@#$%&*;!\"[]^_`|", []rune("~\\={}<>@#$%&*;!\"[]^_`|"), 0, true}, {"-", []rune("-"), 0, true}, {"\r\n\t ", []rune("\r\n\t "), 0, true},
	}
	for _, x := range cases {
		s := []byte(x.s)
		if got := Read(s); !slices.Equal(got, x.want) {
			t.Errorf("Read(%q) = %X, want %X", x.s, got, x.want)
		}
		if got := Shifts(s); got != x.shifts {
			t.Errorf("Shifts(%q) = %d, want %d", x.s, got, x.shifts)
		}
		want, wantErr := x.want, api.OK
		if !x.right {
			want, wantErr = nil, api.ErrForm
		}
		if got, err := Strict(s); !slices.Equal(got, want) || err != wantErr {
			t.Errorf("Strict(%q) = %X, %d, want %X, %d", x.s, got, err, want, wantErr)
		}
		check(t, s)
	}
}

func TestEveryTwoAndThreeOctets(t *testing.T) {
	for many := range 3 {
		every(allOctets(), many, func(s []byte) { check(t, s) })
	}
	every(edges, 3, func(s []byte) { check(t, s) })
}

// Each octet behind a `+`, in a run, behind its digits, and behind its end.
func TestEveryOctetAtEachPlace(t *testing.T) {
	for _, right := range []string{"a+-b", "+AOk-", "a+AOk-+2D3eAA--", "+ImIDkQ."} {
		for at := range len(right) + 1 {
			for _, c := range allOctets() {
				check(t, []byte(right[:at]+string([]byte{c})+right[at:]))
				if at < len(right) {
					check(t, []byte(right[:at]+string([]byte{c})+right[at+1:]))
				}
			}
		}
	}
}

func TestEveryShortList(t *testing.T) {
	for many := range 8 {
		every([]byte("A+-."), many, func(s []byte) { check(t, s) })
	}
	for many := range 7 {
		every([]byte("Q/+-=\xE9"), many, func(s []byte) { check(t, s) })
	}
	// Runs of a few digits, closed or not, one behind the other.
	pieces := []string{"+", "-", "AOk", "AOl", "2D0", "3gA", "A", ".", "\xFF"}
	for many := range 5 {
		every(pieces, many, func(s []string) { check(t, []byte(strings.Join(s, ""))) })
	}
}

func TestLongerLists(t *testing.T) {
	kinds := []string{"a", "+", "-", "+-", "A+", "A+-", "AQ+-.", "\x80+A", alphabet, alphabet + "-", alphabet + "-...", string(allOctets()), string(edges)}
	for _, of := range kinds {
		for many := range 200 {
			s := someOf([]byte(of), many)
			check(t, s)
			check(t, append([]byte{'+'}, s...))
			checkRun(t, s)
		}
	}
}

// Very many octets are read in a time that grows with them.
func TestVeryLongLists(t *testing.T) {
	many := 3 << 17
	cases := []struct {
		of, read string
		shifts   int
		right    bool
	}{{"a", "a", 0, true}, {"+-", "+", 0, true}, {"+AOk-", "\u00E9", 1, true}, {"+AOk.", "\u00E9.", 1, true}, {"+ ", "+ ", 0, false}, {"+A-", "\uFFFD", 1, false}, {"\x80", "\uFFFD", 0, false}}
	for _, x := range cases {
		s, want := []byte(strings.Repeat(x.of, many)), []rune(strings.Repeat(x.read, many))
		if !slices.Equal(Read(s), want) || Shifts(s) != x.shifts*many {
			t.Errorf("%q, %d times, is read otherwise", x.of, many)
		}
		strict, err := Strict(s)
		if (err == api.OK) != x.right || x.right != slices.Equal(strict, want) {
			t.Errorf("%q, %d times, is read otherwise, strictly", x.of, many)
		}
	}
	d := []byte(strings.Repeat("2D3eAADp", many))
	want := []rune(strings.Repeat("\U0001F600\u00E9", many))
	if got, right := Run(d); !slices.Equal(got, want) || !right {
		t.Error("very many digits are read otherwise")
	}
	s := append([]byte{'+'}, d...)
	if got, err := Strict(s); !slices.Equal(got, want) || err != api.OK || Shifts(s) != 1 {
		t.Error("a very long run is read otherwise")
	}
}

// P23.2

func TestStrictRefusesEachFault(t *testing.T) {
	right := []string{"", "a", "+-", "+AOk-", "+AOk.", "+2D3eAA-", "\x00~\\="}
	faults := []string{"\x80", "\xFF", "+ ", "+.", "+A-", "+AA-", "+AOl-", "+AOkA-", "+2D0-", "+3gA-", "+3gDYPQ-"}
	for _, ahead := range right {
		for _, behind := range right {
			s := []byte(ahead + " " + behind)
			if _, err := Strict(s); err != api.OK {
				t.Errorf("Strict(%q): %d", s, err)
			}
			for _, fault := range faults {
				s := []byte(ahead + " " + fault + behind)
				if got, err := Strict(s); got != nil || err != api.ErrForm {
					t.Errorf("Strict(%q) = %X, %d", s, got, err)
				}
				check(t, s)
			}
		}
	}
}

func TestAgainCases(t *testing.T) {
	cases := []struct{ s, want string }{
		{"", ""}, {"a", "a"}, {"A+ImIDkQ.", "A+ImIDkQ-."}, {"A+ImIDkQ-.", "A+ImIDkQ-."}, {"+AGE-", "a"}, {"+ACs-", "+-"}, {"+AOk-+AOk-", "+AOkA6Q-"}, {"+", "+-"}, {"+-", "+-"}, {"+ ", "+- "}, {"=", "+AD0-"}, {"\xE9", "+//0-"}, {"+A-", "+//0-"}, {"+AOl-", "+AOn//Q-"}, {"+2D0-+3gA-", "+//3//Q-"}, {"\x00", "+AAA-"}, {"+AOk--", "+AOk--"},
	}
	for _, x := range cases {
		if got, err := Again([]byte(x.s)); string(got) != x.want || err != api.OK {
			t.Errorf("Again(%q) = %q, %d, want %q", x.s, got, err, x.want)
		}
		check(t, []byte(x.s))
	}
}

// P23.3

// checkLaid lays a text, and tells whether it is read as itself.
func checkLaid(t *testing.T, text []rune) {
	t.Helper()
	s, err := useven.Lay(text)
	if err != api.OK {
		t.Fatalf("%X is not laid", text)
	}
	if got := Read(s); !slices.Equal(got, text) {
		t.Fatalf("%X is laid as %q, and read as %X", text, s, got)
	}
	if got, err := Strict(s); !slices.Equal(got, text) || err != api.OK {
		t.Fatalf("%X is laid as %q, and read strictly as %X, %d", text, s, got, err)
	}
	if got, err := Again(s); string(got) != string(s) || err != api.OK {
		t.Fatalf("%q is laid again as %q, %d", s, got, err)
	}
	if got, want := Shifts(s), useven.Runs(text); got != want {
		t.Fatalf("%q has %d runs, want %d", s, got, want)
	}
	if got, right := Run(useven.Code(text)); !slices.Equal(got, text) || !right {
		t.Fatalf("the code of %X is read as %X, %t", text, got, right)
	}
}

// scalars hands on all scalar values.
func scalars(do func(c rune)) {
	for c := rune(0); c <= 0x10FFFF; c++ {
		if c < 0xD800 || c > 0xDFFF {
			do(c)
		}
	}
}

func TestEverySignIsRead(t *testing.T) {
	var row []rune
	scalars(func(c rune) {
		s, _ := useven.Lay([]rune{c})
		if got, err := Strict(s); len(got) != 1 || got[0] != c || err != api.OK {
			t.Fatalf("%X is laid as %q, and read as %X, %d", c, s, got, err)
		}
		row = append(row, c)
		if len(row) == 997 || c == 0x10FFFF {
			checkLaid(t, row)
			row = row[:0]
		}
	})
}

func TestWhatIsLaidIsRead(t *testing.T) {
	var ascii []rune
	for c := range rune(128) {
		ascii = append(ascii, c)
	}
	signs := []rune{'A', '-', '+', '/', '=', ' ', '\n', 0, 0xE9, 0x20AC, 0xD7FF, 0xE000, 0xFFFD, 0xFFFF, 0x10000, 0x10FFFF}
	every(slices.Concat(ascii, signs[8:]), 2, func(text []rune) { checkLaid(t, text) })
	every(signs, 3, func(text []rune) { checkLaid(t, text) })
	for many := range 8 {
		every([]rune{'A', '-', '+', 0x1F600}, many, func(text []rune) { checkLaid(t, text) })
	}
	for many := range 300 {
		checkLaid(t, someOf(signs, many))
		checkLaid(t, someOf(ascii, many))
	}
}

// P23.4: check and checkRun ask it of all that they are handed; here the most that there may be.
func TestAsManySignsAsOctets(t *testing.T) {
	for _, s := range []string{"", "a", "+", "\x80", "+ ", "a+", "+\xFF", "abc\x00\xFF+"} {
		if got := Read([]byte(s)); len(got) != len(s) {
			t.Errorf("%q has %d signs", s, len(got))
		}
	}
	for many := range 60 {
		for _, digit := range []string{"A", "/", "+", "2"} {
			d := strings.Repeat(digit, many)
			check(t, []byte("+"+d))
			checkRun(t, []byte(d))
		}
	}
}

// R5: nil and empty lists.
func TestNilAndEmpty(t *testing.T) {
	for _, s := range [][]byte{nil, {}, make([]byte, 0, 8)} {
		if got, want := told(s), (answers{}); got != want {
			t.Errorf("of nothing is told %v", got)
		}
		if got, right := Run(s); len(got) != 0 || !right {
			t.Errorf("of no digits Run tells %X, %t", got, right)
		}
	}
}

// samples are octets of all kinds.
func samples() [][]byte {
	list := [][]byte{nil, allOctets(), someOf(edges, 300), someOf([]byte(alphabet), 300)}
	for _, s := range []string{"a", "+", "+-", "+A", "+AOk", "+AOk-", "+AOk-a+AOk.", "+2D0", "+2D3eAA--", "AGE", "AOl", "2D3eAA", "2AA", "\x80", "a\xFF+", "A+ImIDkQ."} {
		list = append(list, []byte(s))
	}
	return list
}

// toldOfRun is what Run answers.
func toldOfRun(d []byte) string {
	t, right := Run(d)
	return fmt.Sprintf("%s%t", numbers(t), right)
}

// R3: the same again, whatever capacity a list has, and whatever stands behind its end.
func TestSameAnswersAgain(t *testing.T) {
	for _, s := range samples() {
		want, wantRun := told(slices.Clip(s)), toldOfRun(slices.Clip(s))
		for _, room := range rooms() {
			if got := told(roomy(s, room)); got != want {
				t.Errorf("of %q is told %v, and then %v", s, want, got)
			}
			if got := toldOfRun(roomy(s, room)); got != wantRun {
				t.Errorf("of %q Run tells %s, and then %s", s, wantRun, got)
			}
		}
	}
}

// R4: lists are left as they are, and answers share nothing.

func TestListsAreLeft(t *testing.T) {
	for _, as := range samples() {
		for _, room := range rooms() {
			s := roomy(as, room)
			told(s)
			Run(s)
			if !untouched(s, as, room) {
				t.Errorf("%q was written into: %q", as, s[:cap(s)])
			}
		}
	}
}

// sharesNothing tells of a call whether its answers are the caller's own.
func sharesNothing[E comparable](t *testing.T, name string, call func(s []byte) []E, with E) {
	for _, as := range samples() {
		room := rooms()[0]
		s := roomy(as, room)
		first := call(s)
		want := slices.Clone(first)
		writeOver(first, with)
		if !untouched(s, as, room) {
			t.Errorf("%s of %q answers what it was handed", name, as)
		}
		second := call(s)
		if !slices.Equal(second, want) {
			t.Errorf("%s of %q answers %v after a write, %v ahead", name, as, second, want)
		}
		writeOver(s, 'X')
		if !slices.Equal(second, want) {
			t.Errorf("%s of %q keeps what it was handed", name, as)
		}
	}
}

func TestAnswersShareNothing(t *testing.T) {
	sharesNothing(t, "Read", Read, -1)
	sharesNothing(t, "Run", func(d []byte) []rune {
		signs, _ := Run(d)
		return signs
	}, -1)
	sharesNothing(t, "Strict", func(s []byte) []rune {
		text, _ := Strict(s)
		return text
	}, -1)
	sharesNothing(t, "Again", func(s []byte) []byte {
		laid, _ := Again(s)
		return laid
	}, 'X')
}
