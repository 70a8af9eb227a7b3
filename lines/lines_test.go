package lines

import (
	"fmt"
	"math"
	"slices"
	"strings"
	"testing"

	"sheave/api"
)

// octetEdges are octets that stand beside others of another kind.
var octetEdges = []byte("\r\nab \t\x00\x01\x0B\x0C\x0E\x7E\x7F\x80\x81\x8A\x8D\xFF")

// numbers are those about the lengths of short lists, and about the ends of their type.
var numbers = []int{math.MinInt, math.MinInt + 1, -77, -2, -1, 0, 1, 2, 3, 4, 5, 76, math.MaxInt - 1, math.MaxInt}

// splitExpected are the lines by the words, octet by octet.
func splitExpected(s []byte) []string {
	var out []string
	line := ""
	for i := 0; i < len(s); i++ {
		if i+1 < len(s) && s[i] == 13 && s[i+1] == 10 {
			out, line = append(out, line), ""
			i++
			continue
		}
		line += string(s[i : i+1])
	}
	if line != "" {
		out = append(out, line)
	}
	return out
}

// bareExpected is how many octets are bare ends, each asked for its neighbours.
func bareExpected(s []byte) int {
	many := 0
	for i, c := range s {
		switch {
		case c == 13 && !(i+1 < len(s) && s[i+1] == 10):
			many++
		case c == 10 && !(i > 0 && s[i-1] == 13):
			many++
		}
	}
	return many
}

// endsExpected tells whether the last two octets are an end, or there are none.
func endsExpected(s []byte) bool {
	return len(s) == 0 || len(s) > 1 && s[len(s)-2] == 13 && s[len(s)-1] == 10
}

// fitsExpected tells whether lines of these lengths are short enough.
func fitsExpected(lengths []int, first, most int) bool {
	if first < 0 || most < 0 {
		return false
	}
	for i, many := range lengths {
		if i == 0 && many > most-first || i > 0 && many > most {
			return false
		}
	}
	return true
}

// sevenExpected asks whether octets may go in the order of the words.
func sevenExpected(s []byte, lengths []int, most int) api.Errno {
	if bareExpected(s) != 0 || slices.Contains(s, 0) {
		return api.ErrControl
	}
	for _, c := range s {
		if c > 127 {
			return api.ErrChar
		}
	}
	for _, many := range lengths {
		if many > most {
			return api.ErrLong
		}
	}
	return api.OK
}

// lengthsOf are how many octets lines have.
func lengthsOf(l []string) []int {
	var out []int
	for _, line := range l {
		out = append(out, len(line))
	}
	return out
}

// longestOf is the greatest number, 0 of none.
func longestOf(lengths []int) int {
	if len(lengths) == 0 {
		return 0
	}
	return slices.Max(lengths)
}

// texts are lines as texts.
func texts(l [][]byte) []string {
	var out []string
	for _, line := range l {
		out = append(out, string(line))
	}
	return out
}

// octets are texts as lines.
func octets(l []string) [][]byte {
	var out [][]byte
	for _, line := range l {
		out = append(out, []byte(line))
	}
	return out
}

// check holds what the calls answer of octets against what is expected, and what follows.
func check(t *testing.T, s []byte) {
	t.Helper()
	want := splitExpected(s)
	lengths := lengthsOf(want)
	if got := texts(Split(s)); !slices.Equal(got, want) {
		t.Fatalf("Split(%q) = %q, want %q", s, got, want)
	}
	if got := Ends(s); got != endsExpected(s) {
		t.Fatalf("Ends(%q) = %t", s, got)
	}
	if got := Bare(s); got != bareExpected(s) {
		t.Fatalf("Bare(%q) = %d, want %d", s, got, bareExpected(s))
	}
	if got := Longest(s); got != longestOf(lengths) {
		t.Fatalf("Longest(%q) = %d, want %d", s, got, longestOf(lengths))
	}
	checkWhole(t, s)
	about := []int{-1, 0, 1, longestOf(lengths) - 1, longestOf(lengths), longestOf(lengths) + 1, math.MinInt, math.MaxInt}
	for _, most := range about {
		if got := Seven(s, most); got != sevenExpected(s, lengths, most) {
			t.Fatalf("Seven(%q, %d) = %d, want %d", s, most, got, sevenExpected(s, lengths, most))
		}
		for _, first := range about {
			if got := Fits(s, first, most); got != fitsExpected(lengths, first, most) {
				t.Fatalf("Fits(%q, %d, %d) = %t", s, first, most, got)
			}
		}
	}
}

// checkWhole holds what is put together against what is expected: P26.3, too.
func checkWhole(t *testing.T, s []byte) {
	t.Helper()
	want := string(s)
	if !endsExpected(s) {
		want += "\r\n"
	}
	whole := Whole(s)
	if string(whole) != want {
		t.Fatalf("Whole(%q) = %q, want %q", s, whole, want)
	}
	if !Ends(whole) || string(Whole(whole)) != want {
		t.Fatalf("%q is whole as %q, which is not", s, whole)
	}
	l := Split(s)
	if got := Join(l); string(got) != want {
		t.Fatalf("%q is split, and joined to %q", s, got)
	}
	if got := Split(Join(l)); !slices.Equal(texts(got), texts(l)) {
		t.Fatalf("%q is split to %q, joined, and split to %q", s, l, got)
	}
	if Bare(s) > 0 != (Bare(whole) > 0) {
		t.Fatalf("%q has %d bare ends, and whole %d", s, Bare(s), Bare(whole))
	}
}

// every hands on all lists of these elements of so many of them.
func every[E any](of []E, many int, do func(s []E)) {
	s := make([]E, many)
	var from func(at int)
	from = func(at int) {
		if at == many {
			do(s)
			return
		}
		for _, c := range of {
			s[at] = c
			from(at + 1)
		}
	}
	from(0)
}

// allOctets are those from 0 to 255.
func allOctets() []byte {
	var s []byte
	for c := range 256 {
		s = append(s, byte(c))
	}
	return s
}

// someOf is a row of so many of these elements that has no short period.
func someOf[E any](of []E, many int) []E {
	s := make([]E, many)
	x := uint32(many) + 1
	for i := range s {
		x = x*1664525 + 1013904223
		s[i] = of[int(x>>16)%len(of)]
	}
	return s
}

// P26.1

func TestSplitAndEndsCases(t *testing.T) {
	cases := []struct {
		s    string
		want []string
		ends bool
		bare int
	}{
		{"a\r\nb", []string{"a", "b"}, false, 0},
		{"", nil, true, 0}, {"a", []string{"a"}, false, 0}, {"a\r\n", []string{"a"}, true, 0}, {"a\r\nb\r\n", []string{"a", "b"}, true, 0}, {" a \r\n\tb\t", []string{" a ", "\tb\t"}, false, 0},
		// Lines without octets, wherever they stand.
		{"\r\n", []string{""}, true, 0}, {"\r\n\r\n", []string{"", ""}, true, 0}, {"\r\na", []string{"", "a"}, false, 0}, {"a\r\n\r\nb", []string{"a", "", "b"}, false, 0}, {"a\r\n\r\n", []string{"a", ""}, true, 0}, {"\r\n\r\n\r\na\r\n", []string{"", "", "", "a"}, true, 0},
		// A bare end ends no line, and is an octet of one.
		{"\r", []string{"\r"}, false, 1}, {"\n", []string{"\n"}, false, 1}, {"a\rb", []string{"a\rb"}, false, 1}, {"a\nb", []string{"a\nb"}, false, 1}, {"a\n", []string{"a\n"}, false, 1}, {"a\r", []string{"a\r"}, false, 1}, {"\n\r", []string{"\n\r"}, false, 2}, {"\r\r", []string{"\r\r"}, false, 2}, {"\n\n", []string{"\n\n"}, false, 2}, {"a\nb\rc", []string{"a\nb\rc"}, false, 2},
		// A bare end beside a whole one.
		{"\r\r\n", []string{"\r"}, true, 1}, {"\r\n\n", []string{"", "\n"}, false, 1}, {"\r\n\r", []string{"", "\r"}, false, 1}, {"\n\r\n", []string{"\n"}, true, 1}, {"\r\r\n\n", []string{"\r", "\n"}, false, 2}, {"\r\n\r\r\n", []string{"", "\r"}, true, 1}, {"\n\r\n\r", []string{"\n", "\r"}, false, 2}, {"a\r\n\nb\r\r\n", []string{"a", "\nb\r"}, true, 2},
		// Other controls, and what stands for breaks elsewhere, end nothing.
		{"a\x00b", []string{"a\x00b"}, false, 0}, {"a\vb\fc", []string{"a\vb\fc"}, false, 0}, {"a\x85b", []string{"a\x85b"}, false, 0}, {"a\u2028b\u0085", []string{"a\u2028b\u0085"}, false, 0}, {"\x8D\x8A", []string{"\x8D\x8A"}, false, 0}, {"\r\x8A", []string{"\r\x8A"}, false, 1}, {"\r\x00\n", []string{"\r\x00\n"}, false, 2},
	}
	for _, x := range cases {
		s := []byte(x.s)
		if got := texts(Split(s)); !slices.Equal(got, x.want) {
			t.Errorf("Split(%q) = %q, want %q", x.s, got, x.want)
		}
		if got := Ends(s); got != x.ends {
			t.Errorf("Ends(%q) = %t", x.s, got)
		}
		if got := Bare(s); got != x.bare {
			t.Errorf("Bare(%q) = %d, want %d", x.s, got, x.bare)
		}
		check(t, s)
	}
}

func TestJoinCases(t *testing.T) {
	cases := []struct {
		l    []string
		want string
	}{
		{nil, ""}, {[]string{""}, "\r\n"}, {[]string{"a"}, "a\r\n"}, {[]string{"a", "b"}, "a\r\nb\r\n"}, {[]string{"", ""}, "\r\n\r\n"}, {[]string{"", "a", "", "b", ""}, "\r\na\r\n\r\nb\r\n\r\n"}, {[]string{"\x00\xFF", " "}, "\x00\xFF\r\n \r\n"},
		// What a line has in it is left, ends too.
		{[]string{"a\r\n"}, "a\r\n\r\n"}, {[]string{"a\r\nb", "c"}, "a\r\nb\r\nc\r\n"}, {[]string{"\r", "\n"}, "\r\r\n\n\r\n"}, {[]string{"\r\n", "\r\n"}, "\r\n\r\n\r\n\r\n"},
	}
	for _, x := range cases {
		if got := Join(octets(x.l)); string(got) != x.want {
			t.Errorf("Join(%q) = %q, want %q", x.l, got, x.want)
		}
	}
}

func TestWholeCases(t *testing.T) {
	cases := []struct{ s, want string }{
		{"", ""}, {"a", "a\r\n"}, {"a\r\n", "a\r\n"}, {"a\r\nb", "a\r\nb\r\n"}, {"\r\n", "\r\n"}, {"\r\n\r\n", "\r\n\r\n"},
		// A bare end is no end.
		{"\r", "\r\r\n"}, {"\n", "\n\r\n"}, {"a\r", "a\r\r\n"}, {"a\n", "a\n\r\n"}, {"\n\r", "\n\r\r\n"}, {"\r\r\n", "\r\r\n"}, {"\r\n\n", "\r\n\n\r\n"}, {"\r\n ", "\r\n \r\n"}, {"\x00", "\x00\r\n"},
	}
	for _, x := range cases {
		if got := Whole([]byte(x.s)); string(got) != x.want {
			t.Errorf("Whole(%q) = %q, want %q", x.s, got, x.want)
		}
	}
}

// P26.2

func TestLongestCases(t *testing.T) {
	cases := []struct {
		s    string
		want int
	}{
		{"", 0}, {"\r\n", 0}, {"\r\n\r\n", 0}, {"a", 1}, {"a\r\n", 1}, {"a\r\nbc", 2}, {"ab\r\nc", 2}, {"a\r\nbcd\r\nef\r\n", 3}, {"ab\r\n\r\n", 2}, {"\r\nab", 2}, {"\r", 1}, {"\n\r", 2}, {"ab\ncd", 5}, {"\r\r\n", 1}, {"\u00E9\r\na", 2}, {"\x00\x00\x00", 3},
	}
	for _, x := range cases {
		if got := Longest([]byte(x.s)); got != x.want {
			t.Errorf("Longest(%q) = %d, want %d", x.s, got, x.want)
		}
	}
}

func TestFitsCases(t *testing.T) {
	cases := []struct {
		s           string
		first, most int
		want        bool
	}{
		// The first line has less room, each other one all of it, with an end and without one.
		{"abc", 0, 3, true}, {"abc", 0, 2, false}, {"abc", 1, 4, true}, {"abc", 1, 3, false}, {"abc\r\n", 1, 4, true}, {"abc\r\n", 1, 3, false}, {"abc\r\nabcd", 1, 4, true}, {"abc\r\nabcde", 1, 4, false}, {"abcd\r\nabc", 1, 4, false}, {"abc\r\nabcd\r\n", 1, 4, true}, {"abc\r\nabcde\r\n", 1, 4, false}, {"a\r\nabcd\r\nabcd", 3, 4, true}, {"a\r\nabcd\r\nabcde", 3, 4, false}, {"a\r\nabcde\r\na", 3, 4, false}, {"ab\r\na", 3, 4, false},
		// The first line may be one without octets.
		{"\r\nabcd", 4, 4, true}, {"\r\nabcde", 4, 4, false}, {"\r\nabcd", 0, 4, true}, {"a\r\n", 4, 4, false}, {"\r\n", 0, 0, true}, {"\r\n\r\n", 0, 0, true}, {"\r\na", 0, 0, false}, {"a", 0, 0, false},
		// More is taken of the first line than there is: no line is that short.
		{"\r\n", 1, 0, false}, {"\r\n", 5, 4, false}, {"\r\nab", 5, 4, false}, {"a", 5, 4, false}, {"\r\n", math.MaxInt, 0, false}, {"\r\n", math.MaxInt, math.MaxInt, true}, {"a", math.MaxInt, math.MaxInt, false}, {"a", math.MaxInt - 1, math.MaxInt, true},
		// Where there is no line, none is too long, whatever the room is.
		{"", 0, 0, true}, {"", 0, 76, true}, {"", 5, 4, true}, {"", math.MaxInt, 0, true}, {"", math.MaxInt, math.MaxInt, true},
		// Numbers below 0, though there be no line.
		{"", -1, 0, false}, {"", 0, -1, false}, {"", -1, -1, false}, {"", -1, 76, false}, {"", math.MinInt, math.MaxInt, false}, {"", math.MaxInt, math.MinInt, false}, {"a", -1, 1, false}, {"a", -1, 0, false}, {"a", -1, 76, false}, {"a", -5, -1, false}, {"\r\n", -1, -1, false}, {"a", math.MinInt, math.MinInt, false}, {"a", 0, math.MinInt, false}, {"a", 1, math.MinInt, false}, {"a", 2, math.MinInt, false}, {"a", math.MinInt, 0, false}, {"a", math.MinInt, math.MaxInt, false},
		// A bare end is an octet of its line.
		{"a\rb", 0, 3, true}, {"a\rb", 0, 2, false}, {"\n\r\na", 1, 1, false}, {"\n\r\na", 1, 2, true},
	}
	for _, x := range cases {
		if got := Fits([]byte(x.s), x.first, x.most); got != x.want {
			t.Errorf("Fits(%q, %d, %d) = %t", x.s, x.first, x.most, got)
		}
	}
}

func TestSevenCases(t *testing.T) {
	long := strings.Repeat("a", 77)
	cases := []struct {
		s    string
		most int
		want api.Errno
	}{
		{"", 76, api.OK}, {"a", 76, api.OK}, {"a\r\nb", 76, api.OK}, {"a\r\nb\r\n", 76, api.OK}, {"\r\n", 0, api.OK}, {"\r\n\r\n", 0, api.OK}, {"\x01\t\x0B\x1F ~\x7F", 76, api.OK},
		// A bare end, or a 0, wherever it stands.
		{"\r", 76, api.ErrControl}, {"\n", 76, api.ErrControl}, {"a\nb", 76, api.ErrControl}, {"a\rb", 76, api.ErrControl}, {"a\r", 76, api.ErrControl}, {"\n\r", 76, api.ErrControl}, {"\r\r\n", 76, api.ErrControl}, {"\r\n\n", 76, api.ErrControl}, {"\x00", 76, api.ErrControl}, {"a\x00", 76, api.ErrControl}, {"a\r\n\x00\r\n", 76, api.ErrControl},
		// An octet above 127, wherever it stands.
		{"\x7F", 76, api.OK}, {"\x80", 76, api.ErrChar}, {"\xFF", 76, api.ErrChar}, {"a\u00E9", 76, api.ErrChar}, {"a\r\n\x8A", 76, api.ErrChar}, {"\x8D\x8A", 76, api.ErrChar},
		// A line that is too long: the first one, another one, one without an end.
		{long[:76], 76, api.OK}, {long, 76, api.ErrLong}, {long + "\r\n", 76, api.ErrLong}, {long[:76] + "\r\n" + long[:76], 76, api.OK}, {long[:76] + "\r\n" + long, 76, api.ErrLong}, {long + "\r\na", 76, api.ErrLong}, {"a\r\n" + long + "\r\na", 76, api.ErrLong}, {"a", 0, api.ErrLong}, {"a", 1, api.OK}, {"ab", 1, api.ErrLong}, {long, math.MaxInt, api.OK},
		// Each line is longer than a number below 0 tells, but there must be one.
		{"", 0, api.OK}, {"", -1, api.OK}, {"", math.MinInt, api.OK}, {"\r\n", -1, api.ErrLong}, {"a", -1, api.ErrLong}, {"\r\n", math.MinInt, api.ErrLong},
		// The error that is named first, wherever what tells it stands.
		{"\x80\n", 0, api.ErrControl}, {"\n\x80", 0, api.ErrControl}, {"\x80\x00", 76, api.ErrControl}, {long + "\n", 76, api.ErrControl}, {long + "\r\n\x00", 76, api.ErrControl}, {long + "\x80", 76, api.ErrChar}, {long + "\r\n\x80", 76, api.ErrChar}, {"\x80" + long, 76, api.ErrChar}, {"\x80", -1, api.ErrChar}, {"\x00", -1, api.ErrControl}, {"\r", -1, api.ErrControl}, {long + "\r\n\x80\r\n\r", 76, api.ErrControl},
	}
	for _, x := range cases {
		if got := Seven([]byte(x.s), x.most); got != x.want {
			t.Errorf("Seven(%q, %d) = %d, want %d", x.s, x.most, got, x.want)
		}
	}
}

// All numbers about lengths and about the ends of their type, with lists of all kinds.
func TestEveryTwoNumbers(t *testing.T) {
	for _, s := range []string{"", "a", "\r\n", "abc", "abc\r\n", "a\r\nbcd", "abcd\r\n\r\nab\r\n", "\r\nabcde", "\n", "\x80", "\x00", strings.Repeat("a", 76), strings.Repeat("a", 77)} {
		lengths := lengthsOf(splitExpected([]byte(s)))
		for _, most := range numbers {
			if got := Seven([]byte(s), most); got != sevenExpected([]byte(s), lengths, most) {
				t.Errorf("Seven(%q, %d) = %d", s, most, got)
			}
			for _, first := range numbers {
				if got := Fits([]byte(s), first, most); got != fitsExpected(lengths, first, most) {
					t.Errorf("Fits(%q, %d, %d) = %t", s, first, most, got)
				}
			}
		}
	}
}

// P26.1 to P26.3: check asks all of it of whatever it is handed.

func TestEveryTwoOctets(t *testing.T) {
	for many := range 3 {
		every(allOctets(), many, func(s []byte) { check(t, s) })
	}
	every(octetEdges, 3, func(s []byte) { check(t, s) })
}

// Each octet put in, and in the place of another one.
func TestEveryOctetAtEachPlace(t *testing.T) {
	for _, s := range []string{"a\r\nb", "\r\n\r\n", "ab\r\n\r\nc\r\n", "a\rb\nc\r\n"} {
		for at := range len(s) + 1 {
			for _, c := range allOctets() {
				check(t, []byte(s[:at]+string([]byte{c})+s[at:]))
				if at < len(s) {
					check(t, []byte(s[:at]+string([]byte{c})+s[at+1:]))
				}
			}
			check(t, []byte(s[:at]))
			check(t, []byte(s[at:]))
		}
	}
}

func TestEveryShortList(t *testing.T) {
	for many := range 9 {
		every([]byte("\r\na"), many, func(s []byte) { check(t, s) })
	}
	for many := range 6 {
		every([]byte("\r\na\x00\x80"), many, func(s []byte) { check(t, s) })
	}
	pieces := []string{"\r\n", "\r", "\n", "a", "abc", "\xFF"}
	for many := range 6 {
		every(pieces, many, func(s []string) { check(t, []byte(strings.Join(s, ""))) })
	}
}

// Lines without ends in them are told again, as they were joined.
func TestEveryShortLines(t *testing.T) {
	for many := range 6 {
		every([]string{"", "a", "bc", "\r", "\n", "\n\r"}, many, func(l []string) {
			s := Join(octets(l))
			if want := strings.Join(append(slices.Clone(l), ""), "\r\n"); string(s) != want {
				t.Fatalf("Join(%q) = %q, want %q", l, s, want)
			}
			if got := texts(Split(s)); !slices.Equal(got, l) {
				t.Fatalf("%q are joined, and split to %q", l, got)
			}
			check(t, s)
		})
	}
}

func TestLongerLists(t *testing.T) {
	for _, of := range []string{"\r\n", "\r\na", "\r\nabc", "a", string(octetEdges), string(allOctets())} {
		for many := range 300 {
			check(t, someOf([]byte(of), many))
		}
	}
	pieces := []string{"\r\n", "a", "some octets", "\r\n\r\n", "\r", "\n", " \t", "\xE9"}
	for many := range 200 {
		check(t, []byte(strings.Join(someOf(pieces, many), "")))
	}
	for many := range 80 {
		check(t, []byte(strings.Repeat("a", many)+"\r\n"+strings.Repeat("b", 80-many)))
	}
}

// Very many octets are told of in a time that grows with them.
func TestVeryLongLists(t *testing.T) {
	many := 1 << 20
	cases := []struct {
		of                   string
		lines, longest, bare int
	}{{"\r\n", many, 0, 0}, {"a\r\n", many, 1, 0}, {"a", 1, many, 0}, {"\r", 1, many, many}, {"\n", 1, many, many}, {"\n\r", many, 1, 2}, {"\r\r\n", many, 1, many}, {"\r\n\n", many + 1, 1, many}}
	for _, x := range cases {
		s := []byte(strings.Repeat(x.of, many))
		told := fmt.Sprint(len(Split(s)), Longest(s), Bare(s), len(Join(Split(s))) == len(Whole(s)))
		if want := fmt.Sprint(x.lines, x.longest, x.bare, true); told != want {
			t.Errorf("of %q, %d times, is told %s, want %s", x.of, many, told, want)
		}
		if !Fits(s, 0, x.longest) || x.longest > 0 && Fits(s, 0, x.longest-1) {
			t.Errorf("of %q, %d times, Fits tells otherwise", x.of, many)
		}
		want := api.OK
		if x.bare > 0 {
			want = api.ErrControl
		}
		if got := Seven(s, x.longest); got != want {
			t.Errorf("of %q, %d times, Seven tells %d", x.of, many, got)
		}
	}
}
