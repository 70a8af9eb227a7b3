package reper

import (
	"math"
	"slices"
	"testing"

	"sheave/api"
)

// otherNine are the signs of ISO-8859-15 that ISO-8859-1 has not, and takenNine
// the octets that they take.
var (
	otherNine = []rune{0x20AC, 0x160, 0x161, 0x17D, 0x17E, 0x152, 0x153, 0x178}
	takenNine = []rune{0xA4, 0xA6, 0xA8, 0xB4, 0xB8, 0xBC, 0xBD, 0xBE}
)

// otherWin are the signs of windows-1252 that ISO-8859-1 has not.
var otherWin = []rune{
	0x20AC, 0x201A, 0x192, 0x201E, 0x2026, 0x2020, 0x2021, 0x2C6, 0x2030, 0x160, 0x2039, 0x152, 0x17D,
	0x2018, 0x2019, 0x201C, 0x201D, 0x2022, 0x2013, 0x2014, 0x2DC, 0x2122, 0x161, 0x203A, 0x153, 0x17E, 0x178,
}

// charsets are all charsets, in their order.
var charsets = []int{1, 2, 3, 4, 5}

// noCharsets are numbers of no charset, some of which are one once they are
// cut to fewer bits, or turned to their opposite.
var noCharsets = []int{
	0, 6, 7, 8, -1, -2, -3, -4, -5, -6, 63, 64, 65, 128, 256, 256 + 1, 256 + 5, 1<<16 + 2,
	math.MaxInt32, math.MinInt32, math.MinInt32 + 1, math.MaxInt, math.MinInt, math.MinInt + 1, math.MinInt + 3, math.MinInt + 5,
}

// scalarValue is whether a number is one, reckoned in a wider type.
func scalarValue(c rune) bool {
	n := int64(c)
	return n >= 0 && n <= 0x10FFFF && (n < 0xD800 || n > 0xDFFF)
}

// expectedHas tells by these tests' own lists whether a charset has a sign.
func expectedHas(charset int, c rune) bool {
	switch charset {
	case 1:
		return c >= 0 && c <= 127
	case 2:
		return c >= 0 && c <= 255
	case 3:
		return c >= 0 && c <= 255 && !slices.Contains(takenNine, c) || slices.Contains(otherNine, c)
	case 4:
		return c >= 0 && c <= 0x7F || c >= 0xA0 && c <= 0xFF || slices.Contains(otherWin, c)
	case 5:
		return scalarValue(c)
	}
	return false
}

// expectedLacks is the first place at which a charset lacks a sign.
func expectedLacks(charset int, t []rune) int {
	return slices.IndexFunc(t, func(c rune) bool { return !expectedHas(charset, c) })
}

// expectedSelect is the first charset that lacks nothing, and the error.
func expectedSelect(t []rune) (int, api.Errno) {
	for _, charset := range charsets {
		if expectedLacks(charset, t) < 0 {
			return charset, 0
		}
	}
	return 0, 7
}

// edges are the signs and numbers where a repertoire begins or ends or has a
// gap, and those beside them.
func edges() []rune {
	var out []rune
	around := []rune{0, 10, 13, 'a', 0x7F, 0x80, 0x81, 0x8D, 0x8F, 0x90, 0x9D, 0x9F, 0xA0, 0xE9, 0xFF, 0x100,
		0x191, 0x2C6, 0xD800, 0xDBFF, 0xDC00, 0xDFFF, 0xFFFD, 0xFFFF, 0x10000, 0x1F600, 0x10FFFF}
	around = slices.Concat(around, takenNine, otherNine, otherWin)
	for _, c := range around {
		out = append(out, c-1, c, c+1, -c, c+1<<8, c+1<<16, c+1<<24)
	}
	out = append(out, math.MinInt32, math.MinInt32+1, math.MinInt32+'a', math.MaxInt32-1, math.MaxInt32)
	slices.Sort(out)
	return slices.Compact(out)
}

// few are signs of all that tells repertoires apart: of ASCII and others, of
// Latin1 alone among the small ones, of Latin9 and Win, of Win, of UTF8, none.
var few = []rune{'a', 0xE9, 0xA4, 0x80, 0x20AC, 0x201C, 0xFFFD, 0xD800}

// rows are all rows of up to most of some numbers.
func rows(of []rune, most int) [][]rune {
	all := [][]rune{nil}
	from := 0
	for range most {
		to := len(all)
		for _, row := range all[from:to] {
			for _, c := range of {
				all = append(all, append(slices.Clone(row), c))
			}
		}
		from = to
	}
	return all
}

// checkText holds all answers of a text against those of these tests' lists.
func checkText(t *testing.T, text []rune) {
	t.Helper()
	for _, charset := range charsets {
		want := expectedLacks(charset, text)
		if got := Lacks(charset, text); got != want {
			t.Fatalf("Lacks(%d, %X) = %d, want %d", charset, text, got, want)
		}
		if got := All(charset, text); got != (want == -1) {
			t.Fatalf("All(%d, %X) = %v", charset, text, got)
		}
	}
	want, errno := expectedSelect(text)
	if got, e := Select(text); got != want || e != errno {
		t.Fatalf("Select(%X) = %d, %d, want %d, %d", text, got, e, want, errno)
	}
}

// P12.1

func TestHas(t *testing.T) {
	cases := []struct {
		c                               rune
		ascii, latin1, latin9, win, utf bool
	}{
		{0, true, true, true, true, true},
		{13, true, true, true, true, true},
		{'a', true, true, true, true, true},
		{0x7F, true, true, true, true, true},
		{0x80, false, true, true, false, true},
		{0x81, false, true, true, false, true},
		{0x9F, false, true, true, false, true},
		{0xA0, false, true, true, true, true},
		{0xA4, false, true, false, true, true},
		{0xBE, false, true, false, true, true},
		{0xE9, false, true, true, true, true},
		{0xFF, false, true, true, true, true},
		{0x100, false, false, false, false, true},
		{0x152, false, false, true, true, true},
		{0x178, false, false, true, true, true},
		{0x192, false, false, false, true, true},
		{0x201C, false, false, false, true, true},
		{0x20AC, false, false, true, true, true},
		{0x2122, false, false, false, true, true},
		{0xD7FF, false, false, false, false, true},
		{0xD800, false, false, false, false, false},
		{0xDFFF, false, false, false, false, false},
		{0xE000, false, false, false, false, true},
		{0xFFFD, false, false, false, false, true},
		{0x1F600, false, false, false, false, true},
		{0x10FFFF, false, false, false, false, true},
		{0x110000, false, false, false, false, false},
		{-1, false, false, false, false, false},
		{math.MinInt32, false, false, false, false, false},
		{math.MaxInt32, false, false, false, false, false},
	}
	for _, x := range cases {
		for i, want := range []bool{x.ascii, x.latin1, x.latin9, x.win, x.utf} {
			if got := Has(i+1, x.c); got != want {
				t.Errorf("Has(%d, %X) = %v", i+1, x.c, got)
			}
		}
	}
}

func TestEveryNumberNearTheRange(t *testing.T) {
	for c := rune(-0x10000); c <= 0x10FFFF+0x10000; c++ {
		sets, least := 0, 0
		for charset := 5; charset >= 1; charset-- {
			want := expectedHas(charset, c)
			if got := Has(charset, c); got != want {
				t.Fatalf("Has(%d, %X) = %v", charset, c, got)
			}
			if want {
				sets += 1 << charset
				least = charset
			}
		}
		if got := Sets(c); got != sets {
			t.Fatalf("Sets(%X) = %b, want %b", c, got, sets)
		}
		if got := Least(c); got != least {
			t.Fatalf("Least(%X) = %d, want %d", c, got, least)
		}
	}
}

func TestHasAtEdges(t *testing.T) {
	for _, c := range edges() {
		for _, charset := range charsets {
			if got := Has(charset, c); got != expectedHas(charset, c) {
				t.Errorf("Has(%d, %X) = %v", charset, c, got)
			}
		}
	}
}

func TestAllAndLacks(t *testing.T) {
	cases := []struct {
		charset int
		text    []rune
		lacks   int
	}{
		{1, []rune("plain"), -1},
		{1, []rune{'a', 0x80}, 1},
		{2, []rune{0, 0x80, 0xA4, 0xFF}, -1},
		{2, []rune{0x20AC, 'a'}, 0},
		{3, []rune{0x20AC, 0xE9, 0x80}, -1},
		{3, []rune{0x20AC, 0xE9, 0xA4}, 2},
		{3, []rune{0x20AC, 0x201C, 0xA4}, 1},
		{4, []rune{0x20AC, 0xA4, 0x201C}, -1},
		{4, []rune{'a', 'b', 'c', 0x9F}, 3},
		{4, []rune{'a', 0xFFFD}, 1},
		{5, []rune{0, 0x100, 0xFFFD, 0x10FFFF}, -1},
		{5, []rune{0x10FFFF, 0xD800, 0x110000}, 1},
		{5, []rune{-1}, 0},
	}
	for _, x := range cases {
		if got := Lacks(x.charset, x.text); got != x.lacks {
			t.Errorf("Lacks(%d, %X) = %d, want %d", x.charset, x.text, got, x.lacks)
		}
		if got := All(x.charset, x.text); got != (x.lacks == -1) {
			t.Errorf("All(%d, %X) = %v", x.charset, x.text, got)
		}
	}
}

func TestLacksAtEveryPlace(t *testing.T) {
	lacked := map[int]rune{1: 0xE9, 2: 0x20AC, 3: 0xA4, 4: 0x81, 5: 0xD800}
	for _, charset := range charsets {
		for n := 1; n <= 9; n++ {
			for at := range n {
				text := slices.Repeat([]rune{'a'}, n)
				text[n-1] = -1
				text[at] = lacked[charset]
				if got := Lacks(charset, text); got != at || All(charset, text) {
					t.Errorf("Lacks(%d, %X) = %d, want %d", charset, text, got, at)
				}
			}
		}
	}
}

func TestNoCharset(t *testing.T) {
	for _, charset := range noCharsets {
		for _, c := range edges() {
			if Has(charset, c) {
				t.Fatalf("Has(%d, %X) = true", charset, c)
			}
		}
		for _, row := range rows(few, 2) {
			if All(charset, row) {
				t.Fatalf("All(%d, %X) = true", charset, row)
			}
			want := 0
			if len(row) == 0 {
				want = -1
			}
			if got := Lacks(charset, row); got != want {
				t.Fatalf("Lacks(%d, %X) = %d, want %d", charset, row, got, want)
			}
		}
	}
}

// P12.2

func TestLeastAndSets(t *testing.T) {
	cases := []struct {
		c           rune
		least, sets int
	}{
		{0, 1, 62},
		{'a', 1, 62},
		{0x7F, 1, 62},
		{0x80, 2, 4 + 8 + 32},
		{0xA0, 2, 4 + 8 + 16 + 32},
		{0xA4, 2, 4 + 16 + 32},
		{0xE9, 2, 4 + 8 + 16 + 32},
		{0x100, 5, 32},
		{0x152, 3, 8 + 16 + 32},
		{0x20AC, 3, 8 + 16 + 32},
		{0x192, 4, 16 + 32},
		{0x201C, 4, 16 + 32},
		{0xFFFD, 5, 32},
		{0x1F600, 5, 32},
		{0x10FFFF, 5, 32},
		{0xD800, 0, 0},
		{0xDFFF, 0, 0},
		{0x110000, 0, 0},
		{-1, 0, 0},
		{math.MinInt32, 0, 0},
		{math.MaxInt32, 0, 0},
	}
	for _, x := range cases {
		if got := Least(x.c); got != x.least {
			t.Errorf("Least(%X) = %d, want %d", x.c, got, x.least)
		}
		if got := Sets(x.c); got != x.sets {
			t.Errorf("Sets(%X) = %d, want %d", x.c, got, x.sets)
		}
	}
}

func TestExample(t *testing.T) {
	if n, e := Select([]rune{0xE9, 0x20AC}); n != api.Latin9 || e != api.OK {
		t.Errorf("Select(E9, 20AC) = %d, %d", n, e)
	}
	if n, e := Select([]rune{0xE9, 0x201C}); n != api.Win || e != api.OK {
		t.Errorf("Select(E9, 201C) = %d, %d", n, e)
	}
}

func TestSelect(t *testing.T) {
	cases := []struct {
		text []rune
		want int
	}{
		{nil, 1},
		{[]rune{0}, 1},
		{[]rune("plain text\r\n"), 1},
		{[]rune{'a', 0x80}, 2},
		{[]rune{0xA4, 0xBE}, 2},
		{[]rune{'a', 0x20AC}, 3},
		{[]rune{0x20AC, 0x80}, 3},
		{[]rune{0x201C}, 4},
		{[]rune{'a', 0x10000}, 5},
		{[]rune{0xFFFD}, 5},
		// What the signs need one by one is less than what they need together.
		{[]rune{0xA4, 0x20AC}, 4},
		{[]rune{0xBE, 0x178}, 4},
		{[]rune{0x80, 0x201C}, 5},
		{[]rune{0x80, 0xA4, 0x20AC}, 5},
		{[]rune{0x9F, 0x192}, 5},
	}
	for _, x := range cases {
		for _, text := range [][]rune{x.text, reversed(x.text)} {
			if n, e := Select(text); n != x.want || e != api.OK {
				t.Errorf("Select(%X) = %d, %d, want %d", text, n, e, x.want)
			}
		}
	}
}

// reversed is a text from its end on.
func reversed(t []rune) []rune {
	back := slices.Clone(t)
	slices.Reverse(back)
	return back
}

func TestSelectOfWhatIsNotRight(t *testing.T) {
	for _, wrong := range []rune{-1, 0xD800, 0xDBFF, 0xDC00, 0xDFFF, 0x110000, -'a', math.MinInt32, math.MaxInt32} {
		for at := range 6 {
			text := []rune{'a', 0xE9, 0xA4, 0x20AC, 0x201C, 0x1F600}
			text[at] = wrong
			for _, part := range [][]rune{text, text[at:], text[:at+1], text[at : at+1]} {
				if n, e := Select(part); n != 0 || e != api.ErrScalar {
					t.Errorf("Select(%X) = %d, %d", part, n, e)
				}
			}
		}
	}
}

func TestTextsOfEveryOctet(t *testing.T) {
	for a := rune(0); a < 256; a++ {
		for b := rune(0); b < 256; b++ {
			checkText(t, []rune{a, b})
		}
	}
}

func TestPairsOfEdges(t *testing.T) {
	all := edges()
	for _, a := range all {
		for _, b := range all {
			checkText(t, []rune{a, b})
		}
	}
}

func TestRows(t *testing.T) {
	for _, row := range rows(few, 5) {
		checkText(t, row)
	}
}

func TestSize(t *testing.T) {
	for charset, want := range map[int]int{1: 128, 2: 256, 3: 256, 4: 251, 5: 1112064} {
		if got := Size(charset); got != want {
			t.Errorf("Size(%d) = %d, want %d", charset, got, want)
		}
	}
	for _, charset := range noCharsets {
		if got := Size(charset); got != 0 {
			t.Errorf("Size(%d) = %d", charset, got)
		}
	}
}

func TestSizeIsHowManyItHas(t *testing.T) {
	counts := map[int]int{}
	for c := rune(-0x1000); c <= 0x10FFFF+0x1000; c++ {
		for _, charset := range charsets {
			if Has(charset, c) {
				counts[charset]++
			}
		}
	}
	for _, charset := range charsets {
		if got := Size(charset); got != counts[charset] {
			t.Errorf("Size(%d) = %d, and it has %d", charset, got, counts[charset])
		}
	}
}

// P12.3

func TestSufficientForEachPartAndNoLesserOne(t *testing.T) {
	texts := rows(few[:7], 4)
	texts = append(texts, []rune{'a', 0xE9, 'b', 0x20AC, 0xFF, 0x152, 0, 0x7F, 0xA0})
	for _, text := range texts {
		n, e := Select(text)
		if e != api.OK {
			t.Fatalf("Select(%X) = %d, %d", text, n, e)
		}
		for from := range len(text) + 1 {
			for to := from; to <= len(text); to++ {
				part := text[from:to]
				if !All(n, part) || Lacks(n, part) != -1 {
					t.Fatalf("%d of %X is not sufficient for %X", n, text, part)
				}
				if m, e := Select(part); m > n || e != api.OK {
					t.Fatalf("Select(%X) = %d, %d, but of %X it is %d", part, m, e, text, n)
				}
			}
		}
		for lesser := range n {
			if All(lesser, text) || lesser > 0 && Lacks(lesser, text) < 0 {
				t.Fatalf("%d is sufficient for %X, though %d is selected", lesser, text, n)
			}
		}
	}
}

func TestSelectIsWhatAllSignsHaveInCommon(t *testing.T) {
	for _, row := range rows(few, 4) {
		common := 2 + 4 + 8 + 16 + 32
		for _, c := range row {
			common &= Sets(c)
		}
		n, e := Select(row)
		if common == 0 {
			if n != 0 || e != api.ErrScalar {
				t.Fatalf("Select(%X) = %d, %d", row, n, e)
			}
			continue
		}
		if lowest := common & -common; 1<<n != lowest || e != api.OK {
			t.Fatalf("Select(%X) = %d, %d, and in common are %b", row, n, e, common)
		}
	}
}

func TestLeastIsSelectOfOne(t *testing.T) {
	for _, c := range edges() {
		if n, e := Select([]rune{c}); n != Least(c) || (e == api.OK) != scalarValue(c) {
			t.Errorf("Select(%X) = %d, %d, and Least is %d", c, n, e, Least(c))
		}
	}
}

// R3

func TestAnswersHangOnArgumentsAlone(t *testing.T) {
	for range 3 {
		if n, e := Select([]rune{0xA4, 0x20AC}); n != 4 || e != api.OK {
			t.Errorf("Select = %d, %d", n, e)
		}
		if n, e := Select([]rune{0xD800}); n != 0 || e != api.ErrScalar {
			t.Errorf("Select of a surrogate = %d, %d", n, e)
		}
		if Least(0x20AC) != 3 || Sets(0x20AC) != 56 || Size(4) != 251 || Lacks(3, []rune{'a', 0xA4}) != 1 {
			t.Error("an answer is turned by those before it")
		}
	}
}

// R4

func TestListsAreLeftAsTheyAre(t *testing.T) {
	room := []rune{'a', 0xE9, 0x20AC, 0x201C, 0x1F600, 0xD800, -1}
	before := slices.Clone(room)
	for n := range len(room) + 1 {
		text := room[:n]
		for _, charset := range append(slices.Clone(charsets), noCharsets...) {
			All(charset, text)
			Lacks(charset, text)
		}
		Select(text)
	}
	if !slices.Equal(room, before) {
		t.Errorf("a text is written into: %X", room)
	}
}

func TestWhatLiesBehindTheEndIsNotAsked(t *testing.T) {
	text := []rune{'a', 'b', 0xE9, 0x20AC, 0xD800}[:2]
	if n, e := Select(text); n != 1 || e != api.OK {
		t.Errorf("Select = %d, %d", n, e)
	}
	if !All(1, text) || Lacks(1, text) != -1 {
		t.Error("what lies behind the end is lacked")
	}
}

// R5

func TestNilAndEmpty(t *testing.T) {
	for _, text := range [][]rune{nil, {}} {
		if n, e := Select(text); n != api.ASCII || e != api.OK {
			t.Errorf("Select of none = %d, %d", n, e)
		}
		for _, charset := range charsets {
			if !All(charset, text) || Lacks(charset, text) != -1 {
				t.Errorf("of none %d lacks %d", charset, Lacks(charset, text))
			}
		}
		for _, charset := range noCharsets {
			if All(charset, text) || Lacks(charset, text) != -1 {
				t.Errorf("of none the charset %d, that is none, lacks %d", charset, Lacks(charset, text))
			}
		}
	}
}
