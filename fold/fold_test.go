package fold

import (
	"fmt"
	"math"
	"slices"
	"strings"
	"testing"

	"sheave/api"
	"sheave/lines"
)

// octetEdges are octets that stand beside others of another kind.
var octetEdges = []byte("\r\n \tab!~\x00\x01\x08\x0B\x0C\x0E\x1F\x7F\x80\x85\x8A\x8D\xA0\xFF")

// foldEdges are octets that may be folded, beside others of another kind.
var foldEdges = []byte("  ab!~")

// numbers are those about the lengths of short lists, about the limits, and about the ends of their type.
var numbers = []int{math.MinInt, math.MinInt + 1, -1000, -76, -2, -1, 0, 1, 2, 3, 4, 5, 6, 75, 76, 77, 998, 999, 1000, 1001, 1002, math.MaxInt - 1, math.MaxInt}

// isEnd tells whether 13 and 10 stand at a place, and a blank behind these.
func isEnd(s []byte, at int) bool {
	return at >= 0 && at+2 < len(s) && s[at] == 13 && s[at+1] == 10 && (s[at+2] == 32 || s[at+2] == 9)
}

// unfoldExpected is what stands in no fold, octet by octet, and how many folds there are.
func unfoldExpected(s []byte) (string, int) {
	var out strings.Builder
	many := 0
	for i, c := range s {
		if isEnd(s, i) {
			many++
			continue
		}
		if !isEnd(s, i-1) {
			out.WriteByte(c)
		}
	}
	return out.String(), many
}

// rightExpected asks each 13 and each 10 whether it is one of a fold.
func rightExpected(s []byte) bool {
	for i, c := range s {
		if c == 13 && !isEnd(s, i) || c == 10 && !isEnd(s, i-1) {
			return false
		}
	}
	return true
}

// mayBe tells whether octets may be parted at blanks at all, so that each line fits.
func mayBe(s []byte, first, most int) bool {
	can := make([]bool, len(s)+1) // whether a line that begins there, and all behind it, may be
	for from := len(s); from >= 0; from-- {
		room := most
		if from == 0 {
			room = first
		}
		can[from] = len(s)-from <= room
		for to := from + 1; to < len(s) && to-from <= room; to++ {
			can[from] = can[from] || s[to] == 32 && can[to]
		}
	}
	return can[0]
}

// foldExpected is Fold by the words: of all places where the next line may begin the last one.
func foldExpected(s []byte, first, most int) (string, api.Errno) {
	if most < 1 || most > 1000 || first < 0 || first > most {
		return "", api.ErrArg
	}
	for _, c := range s {
		if c < 32 || c > 126 {
			return "", api.ErrForm
		}
	}
	if !mayBe(s, first, most) {
		return "", api.ErrLong
	}
	var l []string
	line, room := string(s), first
	for len(line) > room {
		next := 0
		for at, c := range []byte(line) {
			if at > 0 && at <= room && c == 32 {
				next = at
			}
		}
		l = append(l, line[:next])
		line, room = line[next:], most
	}
	return strings.Join(append(l, line), "\r\n"), api.OK
}

// check holds what the calls answer of octets against what is expected, and what follows.
func check(t *testing.T, s []byte) {
	t.Helper()
	want, many := unfoldExpected(s)
	if got := Unfold(s); string(got) != want {
		t.Fatalf("Unfold(%q) = %q, want %q", s, got, want)
	}
	if got := Folds(s); got != many {
		t.Fatalf("Folds(%q) = %d, want %d", s, got, many)
	}
	if got := Right(s); got != rightExpected(s) {
		t.Fatalf("Right(%q) = %t", s, got)
	}
	for _, x := range [][2]int{{0, 1}, {1, 1}, {1, 3}, {2, 2}, {3, 5}, {len(s), len(s) + 1}, {5, 76}, {76, 76}, {2, 1}, {-1, 1}, {0, 0}, {0, 1001}} {
		checkFold(t, s, x[0], x[1])
	}
}

// checkFold holds what Fold and Again answer against what is expected, and what follows: P27.3 and P27.4, too.
func checkFold(t *testing.T, s []byte, first, most int) {
	t.Helper()
	want, wantError := foldExpected(s, first, most)
	got, err := Fold(s, first, most)
	if string(got) != want || err != wantError {
		t.Fatalf("Fold(%q, %d, %d) = %q, %d, want %q, %d", s, first, most, got, err, want, wantError)
	}
	bare, _ := unfoldExpected(s)
	again, errAgain := foldExpected([]byte(bare), first, most)
	if got, err := Again(s, first, most); string(got) != again || err != errAgain {
		t.Fatalf("Again(%q, %d, %d) = %q, %d, want %q, %d", s, first, most, got, err, again, errAgain)
	}
	if err != api.OK {
		return
	}
	if back := Unfold(got); string(back) != string(s) {
		t.Fatalf("%q is folded to %q, and unfolded to %q", s, got, back)
	}
	if !lines.Fits(got, most-first, most) || !Right(got) {
		t.Fatalf("%q is folded to %q, which does not fit %d and %d, or is not right", s, got, first, most)
	}
	if len(s) <= first && string(got) != string(s) {
		t.Fatalf("%q fits, and is folded to %q", s, got)
	}
	if twice, err := Again(got, first, most); string(twice) != string(got) || err != api.OK {
		t.Fatalf("%q is folded again to %q, %d", got, twice, err)
	}
}

// every hands on all lists of these elements of so many of them.
func every[E any](of []E, many int, do func(s []E)) {
	s := make([]E, many)
	var from func(at int)
	from = func(at int) {
		if at == many {
			do(s)
			return
		}
		for _, c := range of {
			s[at] = c
			from(at + 1)
		}
	}
	from(0)
}

// allOctets are those from 0 to 255.
func allOctets() []byte {
	var s []byte
	for c := range 256 {
		s = append(s, byte(c))
	}
	return s
}

// someOf is a row of so many of these elements that has no short period.
func someOf[E any](of []E, many int) []E {
	s := make([]E, many)
	x := uint32(many) + 1
	for i := range s {
		x = x*1664525 + 1013904223
		s[i] = of[int(x>>16)%len(of)]
	}
	return s
}

// P27.1

func TestUnfoldCases(t *testing.T) {
	cases := []struct {
		s, want string
		folds   int
		right   bool
	}{
		{"", "", 0, true}, {"a", "a", 0, true}, {" \t", " \t", 0, true}, {"\x00\x7F\x80\xFF", "\x00\x7F\x80\xFF", 0, true},
		// The end is dropped, and the blank behind it is left.
		{"ab cd\r\n ef", "ab cd ef", 1, true}, {"a\r\n b", "a b", 1, true}, {"a\r\n\tb", "a\tb", 1, true}, {"\r\n ", " ", 1, true}, {"\r\n\t", "\t", 1, true}, {"\r\n a", " a", 1, true}, {"a\r\n ", "a ", 1, true}, {"a\r\n \tb", "a \tb", 1, true}, {"a \t\r\n\t b", "a \t\t b", 1, true}, {"a\r\n b\r\n\tc\r\n d", "a b\tc d", 3, true}, {"\r\n \r\n \r\n\t", "  \t", 3, true}, {"\xE9\r\n \x00", "\xE9 \x00", 1, true},
		// An end that no blank follows is none of a fold.
		{"\r\n", "\r\n", 0, false}, {"a\r\n", "a\r\n", 0, false}, {"a\r\nb", "a\r\nb", 0, false}, {"a\r\nb\r\n c", "a\r\nb c", 1, false}, {"a\r\n b\r\n", "a b\r\n", 1, false}, {"\r\n\r\n", "\r\n\r\n", 0, false}, {"a\r\n\x0Bb", "a\r\n\x0Bb", 0, false}, {"a\r\n\x00 ", "a\r\n\x00 ", 0, false}, {"a\r\n\xA0b", "a\r\n\xA0b", 0, false}, {"a\r\n_b", "a\r\n_b", 0, false},
		// Of ends in a row the last one alone may be of a fold, and what is dropped makes no new one.
		{"\r\n\r\n ", "\r\n ", 1, false}, {"a\r\n\r\n\tb", "a\r\n\tb", 1, false}, {"\r\n\r\n\r\n  ", "\r\n\r\n  ", 1, false},
		// Bare ends are left, a blank behind them or none.
		{"\r", "\r", 0, false}, {"\n", "\n", 0, false}, {"\r ", "\r ", 0, false}, {"\n ", "\n ", 0, false}, {"a\r b", "a\r b", 0, false}, {"a\n b", "a\n b", 0, false}, {"\n\r ", "\n\r ", 0, false}, {"\r \n", "\r \n", 0, false}, {"\r\r\n ", "\r ", 1, false}, {"\r\n\n ", "\r\n\n ", 0, false}, {"\r\n\r ", "\r\n\r ", 0, false}, {"\r\n \n", " \n", 1, false}, {"\r\n \r", " \r", 1, false}, {"\n\r\n ", "\n ", 1, false}, {"a\rb\r\n c", "a\rb c", 1, false}, {"\r\x8A ", "\r\x8A ", 0, false}, {"\x8D\n ", "\x8D\n ", 0, false},
	}
	for _, x := range cases {
		s := []byte(x.s)
		if got := Unfold(s); string(got) != x.want {
			t.Errorf("Unfold(%q) = %q, want %q", x.s, got, x.want)
		}
		if got := Folds(s); got != x.folds {
			t.Errorf("Folds(%q) = %d, want %d", x.s, got, x.folds)
		}
		if got := Right(s); got != x.right {
			t.Errorf("Right(%q) = %t", x.s, got)
		}
		check(t, s)
	}
}

// Which octets behind an end make it one of a fold.
func TestEveryOctetBehindAnEnd(t *testing.T) {
	for _, c := range allOctets() {
		s := []byte{'a', 13, 10, c, 'b'}
		blank := c == 32 || c == 9
		if got := Folds(s); got == 1 != blank {
			t.Errorf("Folds(%q) = %d", s, got)
		}
		if got := Right(s); got != blank {
			t.Errorf("Right(%q) = %t", s, got)
		}
		if got := Unfold(s); len(got) == 3 != blank {
			t.Errorf("Unfold(%q) = %q", s, got)
		}
	}
}

// P27.2

func TestFoldCases(t *testing.T) {
	cases := []struct {
		s           string
		first, most int
		want        string
		err         api.Errno
	}{
		{"ab cd ef", 5, 6, "ab cd\r\n ef", api.OK},
		// As many as fit, the first line's room first.
		{"ab cd ef", 8, 8, "ab cd ef", api.OK}, {"ab cd ef", 7, 8, "ab cd\r\n ef", api.OK}, {"ab cd ef", 4, 6, "ab\r\n cd ef", api.OK}, {"ab cd ef", 2, 6, "ab\r\n cd ef", api.OK}, {"ab cd ef", 2, 5, "ab\r\n cd\r\n ef", api.OK}, {"ab cd ef", 2, 3, "ab\r\n cd\r\n ef", api.OK}, {"ab cd ef", 3, 3, "ab\r\n cd\r\n ef", api.OK}, {"a bcd e", 1, 4, "a\r\n bcd\r\n e", api.OK}, {"a bcd e", 1, 6, "a\r\n bcd e", api.OK}, {"a b c d", 3, 5, "a b\r\n c d", api.OK}, {"a b c d e f", 1, 4, "a\r\n b c\r\n d e\r\n f", api.OK},
		// The first line's room is of no other line.
		{"a bcd", 3, 3, "", api.ErrLong}, {"a bcd", 3, 4, "a\r\n bcd", api.OK}, {"abcd e", 3, 4, "", api.ErrLong}, {"abcd e", 3, 76, "", api.ErrLong}, {"abcd e", 4, 4, "abcd\r\n e", api.OK}, {"a bcd efgh", 1, 4, "", api.ErrLong}, {"a bcd efgh", 1, 5, "a\r\n bcd\r\n efgh", api.OK},
		// No line begins at its own first octet again, but it may be one blank alone.
		{" ab", 0, 3, "", api.ErrLong}, {" ab", 2, 3, "", api.ErrLong}, {" ab", 3, 3, " ab", api.OK}, {"  ab", 1, 3, " \r\n ab", api.OK}, {"   ab", 1, 3, " \r\n \r\n ab", api.OK}, {"    ", 1, 1, " \r\n \r\n \r\n ", api.OK}, {"    ", 1, 2, " \r\n  \r\n ", api.OK}, {"    ", 3, 4, "   \r\n ", api.OK}, {"a ", 1, 1, "a\r\n ", api.OK}, {"a  ", 1, 1, "a\r\n \r\n ", api.OK}, {"a  b", 2, 2, "a \r\n b", api.OK}, {"a  b", 1, 2, "a\r\n \r\n b", api.OK}, {"a  b", 1, 3, "a\r\n  b", api.OK}, {" a", 1, 1, "", api.ErrLong}, {"a b", 1, 1, "", api.ErrLong}, {"a b", 1, 2, "a\r\n b", api.OK},
		// The blank may be the first octet that has no room, and not one behind it.
		{"abc d", 3, 4, "abc\r\n d", api.OK}, {"abcd e", 3, 5, "", api.ErrLong}, {"a bcd", 1, 4, "a\r\n bcd", api.OK}, {"a bcd", 2, 4, "a\r\n bcd", api.OK}, {"a bcd", 4, 4, "a\r\n bcd", api.OK},
		// What has no blank may not be folded.
		{"ab", 1, 2, "", api.ErrLong}, {"ab", 2, 2, "ab", api.OK}, {"ab", 1, 1000, "", api.ErrLong}, {"ab", 0, 1000, "", api.ErrLong}, {"a", 0, 1, "", api.ErrLong}, {" ", 0, 1, "", api.ErrLong}, {" ", 1, 1, " ", api.OK}, {"a", 1, 1, "a", api.OK}, {"a-b,c;d_e", 8, 9, "", api.ErrLong},
		// Nothing fits everywhere.
		{"", 0, 1, "", api.OK}, {"", 1, 1, "", api.OK}, {"", 0, 1000, "", api.OK}, {"", 1000, 1000, "", api.OK},
	}
	for _, x := range cases {
		if got, err := Fold([]byte(x.s), x.first, x.most); string(got) != x.want || err != x.err {
			t.Errorf("Fold(%q, %d, %d) = %q, %d, want %q, %d", x.s, x.first, x.most, got, err, x.want, x.err)
		}
		checkFold(t, []byte(x.s), x.first, x.most)
	}
}

// Wrong inputs, with the error that is named first.
func TestFoldErrors(t *testing.T) {
	long := strings.Repeat("a", 1001)
	cases := []struct {
		s           string
		first, most int
		want        api.Errno
	}{
		// Numbers that may not be, whatever octets there are.
		{"a", 0, 0, api.ErrArg}, {"", 0, 0, api.ErrArg}, {"a", 1, 0, api.ErrArg}, {"a", 0, -1, api.ErrArg}, {"a", -1, -1, api.ErrArg}, {"a", -2, -1, api.ErrArg}, {"a", 1, 1001, api.ErrArg}, {"a", 1001, 1001, api.ErrArg}, {"", 0, 1001, api.ErrArg}, {"a", -1, 1, api.ErrArg}, {"a", -1, 1000, api.ErrArg}, {"", -1, 76, api.ErrArg}, {"a", 2, 1, api.ErrArg}, {"a", 77, 76, api.ErrArg}, {"a", 1001, 1000, api.ErrArg}, {"", 77, 76, api.ErrArg}, {"a", math.MinInt, 76, api.ErrArg}, {"a", math.MaxInt, 76, api.ErrArg}, {"a", 1, math.MaxInt, api.ErrArg}, {"a", 1, math.MinInt, api.ErrArg}, {"a", math.MinInt, math.MaxInt, api.ErrArg}, {"a", math.MaxInt, math.MaxInt, api.ErrArg},
		{"a", 1, 1, api.OK}, {"a", 1, 1000, api.OK}, {"a", 1000, 1000, api.OK}, {long[:1000], 1000, 1000, api.OK}, {long, 1000, 1000, api.ErrLong},
		// Octets that may not be, wherever they stand.
		{"\t", 76, 76, api.ErrForm}, {"a\tb", 76, 76, api.ErrForm}, {"a\r\n b", 76, 76, api.ErrForm}, {"a\r\n", 76, 76, api.ErrForm}, {"\r", 76, 76, api.ErrForm}, {"\n", 76, 76, api.ErrForm}, {"a\x00", 76, 76, api.ErrForm}, {"\x1Fa", 76, 76, api.ErrForm}, {" ~", 76, 76, api.OK}, {"a\x7F", 76, 76, api.ErrForm}, {"a\x80b", 76, 76, api.ErrForm}, {"a\xFF", 76, 76, api.ErrForm}, {"a \u00E9", 76, 76, api.ErrForm},
		// The error that is named first.
		{"\t", 0, 0, api.ErrArg}, {"\x80", -1, 76, api.ErrArg}, {long + "\n", 77, 76, api.ErrArg}, {long, 0, 1001, api.ErrArg}, {long + "\n", 76, 76, api.ErrForm}, {"\x80" + long, 76, 76, api.ErrForm}, {"\x7F", 0, 1, api.ErrForm}, {long, 76, 76, api.ErrLong}, {"a " + long, 76, 76, api.ErrLong}, {strings.Repeat("a ", 99) + long, 76, 76, api.ErrLong},
	}
	for _, x := range cases {
		if got, err := Fold([]byte(x.s), x.first, x.most); err != x.want || err != api.OK && got != nil {
			t.Errorf("Fold(%q, %d, %d) = %q, %d, want %d", x.s, x.first, x.most, got, err, x.want)
		}
		checkFold(t, []byte(x.s), x.first, x.most)
	}
}

func TestAgainCases(t *testing.T) {
	cases := []struct {
		s           string
		first, most int
		want        string
		err         api.Errno
	}{
		{"ab cd ef", 5, 6, "ab cd\r\n ef", api.OK}, {"ab\r\n cd ef", 5, 6, "ab cd\r\n ef", api.OK}, {"ab\r\n cd\r\n ef", 5, 6, "ab cd\r\n ef", api.OK}, {"ab cd\r\n ef", 5, 6, "ab cd\r\n ef", api.OK}, {"ab\r\n cd\r\n ef", 8, 8, "ab cd ef", api.OK}, {"", 0, 1, "", api.OK}, {"\r\n ", 1, 1, " ", api.OK},
		// A tab behind an end is left, and may not be folded.
		{"ab\r\n\tcd", 76, 76, "", api.ErrForm},
		// What is none of a fold is left, too.
		{"ab\r\n", 76, 76, "", api.ErrForm}, {"ab\r\ncd", 76, 76, "", api.ErrForm}, {"ab\n cd", 76, 76, "", api.ErrForm}, {"ab\r cd", 76, 76, "", api.ErrForm}, {"ab\r\n\r\n cd", 76, 76, "", api.ErrForm},
		{"ab\r\n cd", 6, 5, "", api.ErrArg}, {"ab\r\n\tcd", 0, 0, "", api.ErrArg}, {"ab\r\n cd", 1, 3, "", api.ErrLong}, {"ab\r\n\tcd", 1, 3, "", api.ErrForm},
	}
	for _, x := range cases {
		if got, err := Again([]byte(x.s), x.first, x.most); string(got) != x.want || err != x.err || err != api.OK && got != nil {
			t.Errorf("Again(%q, %d, %d) = %q, %d, want %q, %d", x.s, x.first, x.most, got, err, x.want, x.err)
		}
	}
}

// All numbers about lengths, about the limits and about the ends of their type, with lists of all kinds.
func TestEveryTwoNumbers(t *testing.T) {
	list := []string{"", "a", " ", "ab cd ef", "abcdef", "      ", "a\r\n b", "\t", "\x80", strings.Repeat("a", 76), strings.Repeat("a", 77), strings.Repeat("a", 1000) + " b", strings.Repeat("abc ", 300)}
	for _, s := range list {
		for _, first := range numbers {
			for _, most := range numbers {
				checkFold(t, []byte(s), first, most)
			}
		}
	}
}

// Each room from 0 on is filled before the next line begins.
func TestEveryRoom(t *testing.T) {
	words := strings.Repeat("ab cde f ghij k ", 6)
	for most := 1; most <= len(words)+2; most++ {
		for first := range most + 1 {
			checkFold(t, []byte(words), first, most)
		}
	}
	blanks := strings.Repeat(" ", 12)
	for most := 1; most <= len(blanks)+2; most++ {
		for first := range most + 1 {
			checkFold(t, []byte(blanks), first, most)
		}
	}
}

// P27.1 to P27.4: check asks all of it of whatever it is handed.

func TestEveryTwoOctets(t *testing.T) {
	for many := range 3 {
		every(allOctets(), many, func(s []byte) { check(t, s) })
	}
	every(octetEdges, 3, func(s []byte) { check(t, s) })
}

// Each octet put in, and in the place of another one.
func TestEveryOctetAtEachPlace(t *testing.T) {
	for _, s := range []string{"ab cd ef", "a\r\n b", "a\r\n\tb\r\n c", "  a  "} {
		for at := range len(s) + 1 {
			for _, c := range allOctets() {
				check(t, []byte(s[:at]+string([]byte{c})+s[at:]))
				if at < len(s) {
					check(t, []byte(s[:at]+string([]byte{c})+s[at+1:]))
				}
			}
			check(t, []byte(s[:at]))
			check(t, []byte(s[at:]))
		}
	}
}

func TestEveryShortList(t *testing.T) {
	for many := range 8 {
		every([]byte("\r\n a"), many, func(s []byte) { check(t, s) })
	}
	pieces := []string{"\r\n", "\r", "\n", " ", "\t", "ab", "\xFF"}
	for many := range 6 {
		every(pieces, many, func(s []string) { check(t, []byte(strings.Join(s, ""))) })
	}
}

// All blanks and others of short lists, in all rooms that they may need.
func TestEveryShortFold(t *testing.T) {
	for many := range 10 {
		every([]byte(" a"), many, func(s []byte) {
			for most := 1; most <= many+1; most++ {
				for first := range most + 1 {
					checkFold(t, s, first, most)
				}
			}
		})
	}
}

func TestLongerLists(t *testing.T) {
	for _, of := range []string{"\r\n ", "\r\n \ta", " a", " abcd", "a", string(foldEdges), string(octetEdges), string(allOctets())} {
		for many := range 200 {
			check(t, someOf([]byte(of), many))
		}
	}
	words := []string{" ", "a", "some ", "octets ", "that are longer than ", "  ", "=?utf-8?Q?=C3=A9?= "}
	for many := range 100 {
		s := []byte(strings.Join(someOf(words, many), ""))
		check(t, s)
		for _, x := range [][2]int{{0, 76}, {10, 76}, {30, 30}, {76, 76}, {998, 998}, {19, 20}} {
			checkFold(t, s, x[0], x[1])
		}
	}
}

// Very many octets are folded and unfolded in a time that grows with them.
func TestVeryLongLists(t *testing.T) {
	many := 1 << 20
	cases := []struct {
		of          string
		first, most int
		folds       int
	}{{" ", 1, 1, many - 1}, {" ", 1000, 1000, many / 1000}, {"a ", 1, 2, many}, {" " + strings.Repeat("a", 9), 10, 10, many - 1}, {"  " + strings.Repeat("a", 999), 1, 1000, 2*many/64 - 1}}
	for _, x := range cases {
		times := many
		if len(x.of) > 100 {
			times = many / 64
		}
		s := []byte(strings.Repeat(x.of, times))
		folded, err := Fold(s, x.first, x.most)
		told := fmt.Sprint(err, Folds(folded), Right(folded), string(Unfold(folded)) == string(s))
		if want := fmt.Sprint(api.OK, x.folds, true, true); told != want {
			t.Errorf("of %.20q, %d times, is told %s, want %s", x.of, times, told, want)
		}
		if !lines.Fits(folded, x.most-x.first, x.most) {
			t.Errorf("%.20q, %d times, is folded so that it does not fit", x.of, times)
		}
	}
	ends := []byte(strings.Repeat("\r\n", many))
	if Folds(ends) != 0 || len(Unfold(ends)) != 2*many || Right(ends) {
		t.Error("ends in a row are told to be folds")
	}
	if got, err := Fold(slices.Repeat([]byte("a"), many), 1000, 1000); len(got) != 0 || err != api.ErrLong {
		t.Errorf("Fold of octets without blanks = %d octets, %d", len(got), err)
	}
}
