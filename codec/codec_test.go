package codec

import (
	"bytes"
	"fmt"
	"math"
	"slices"
	"testing"
	"unicode/utf8"

	"sheave/api"
)

// none stands in the lists of these tests at an octet that has no sign.
const none = 0xFFFD

// charsets are all charsets, in their order, and small those of one octet a sign.
var (
	charsets = []int{1, 2, 3, 4, 5}
	small    = charsets[:4]
)

// noCharsets are numbers of no charset, some of which are one once they are
// cut to fewer bits, or turned to their opposite.
var noCharsets = []int{
	0, 6, 7, 8, -1, -2, -3, -4, -5, -6, 9, 63, 64, 65, 128, 256, 256 + 1, 256 + 5, 1<<16 + 2,
	math.MaxInt32, math.MinInt32, math.MinInt32 + 1, math.MaxInt, math.MinInt, math.MinInt + 1, math.MinInt + 5,
}

// middleWin are the signs of windows-1252 at the octets 80 to 9F.
var middleWin = []rune{
	0x20AC, none, 0x201A, 0x0192, 0x201E, 0x2026, 0x2020, 0x2021, 0x02C6, 0x2030, 0x0160, 0x2039, 0x0152, none, 0x017D, none,
	none, 0x2018, 0x2019, 0x201C, 0x201D, 0x2022, 0x2013, 0x2014, 0x02DC, 0x2122, 0x0161, 0x203A, 0x0153, none, 0x017E, 0x0178,
}

// signsOf are the signs of a small charset's octets, in order.
func signsOf(charset int) []rune {
	all := make([]rune, 256)
	for i := range all {
		all[i] = rune(i)
	}
	switch charset {
	case 1:
		for i := 128; i < 256; i++ {
			all[i] = none
		}
	case 3:
		for x, c := range map[byte]rune{
			0xA4: 0x20AC, 0xA6: 0x160, 0xA8: 0x161, 0xB4: 0x17D, 0xB8: 0x17E, 0xBC: 0x152, 0xBD: 0x153, 0xBE: 0x178,
		} {
			all[x] = c
		}
	case 4:
		copy(all[0x80:], middleWin)
	}
	return all
}

// tables are the signs of the octets of all small charsets; at 0, which is no
// charset's number, they are those of Latin1, as which such octets are read.
var tables = [5][]rune{signsOf(2), signsOf(1), signsOf(2), signsOf(3), signsOf(4)}

// places are the octets of each small charset's signs.
var places = func() (all [5]map[rune]byte) {
	for _, charset := range small {
		all[charset] = map[rune]byte{}
		for x, c := range tables[charset] {
			if c != none {
				all[charset][c] = byte(x)
			}
		}
	}
	return all
}()

// expectedSign are a sign's octets in a charset, and whether it has the sign.
func expectedSign(charset int, c rune) ([]byte, bool) {
	if charset == 5 {
		if c < 0 || !utf8.ValidRune(c) {
			return nil, false
		}
		return utf8.AppendRune(nil, c), true
	}
	x, has := places[charset][c]
	return []byte{x}, has
}

// expectedLay tells by these tests' own lists what Lay answers.
func expectedLay(charset int, t []rune) ([]byte, api.Errno) {
	if charset < 1 || charset > 5 {
		return nil, 10
	}
	var out []byte
	for _, c := range t {
		s, has := expectedSign(charset, c)
		if !has {
			return nil, 9
		}
		out = append(out, s...)
	}
	return out, 0
}

// formed tells whether some sign's octets begin with these; written out by
// trying octets behind them, as the library tells of whole signs alone.
func formed(s []byte) bool {
	if len(s) > 4 {
		return false
	}
	for _, a := range []byte{0x80, 0x8F, 0x90, 0x9F, 0xA0, 0xBF} {
		more := append(slices.Clone(s), a, 0x80, 0x80)
		c, many := utf8.DecodeRune(more)
		if many > len(s) && (c != utf8.RuneError || many == 3) {
			return true
		}
	}
	return false
}

// expectedRead tells by these tests' own lists what Read answers.
func expectedRead(charset int, s []byte) []rune {
	if charset != 5 {
		table := tables[0]
		if charset >= 1 && charset <= 4 {
			table = tables[charset]
		}
		var t []rune
		for _, x := range s {
			t = append(t, table[x])
		}
		return t
	}
	var t []rune
	for len(s) > 0 {
		c, many := utf8.DecodeRune(s)
		if c == utf8.RuneError && many == 1 {
			for many < len(s) && formed(s[:many+1]) {
				many++
			}
		}
		t = append(t, c)
		s = s[many:]
	}
	return t
}

// expectedSelect is the first charset that has all, 0 if there is none.
func expectedSelect(t []rune) int {
	for _, charset := range charsets {
		if _, err := expectedLay(charset, t); err == api.OK {
			return charset
		}
	}
	return 0
}

// rows are all rows of up to most of some things.
func rows[E any](of []E, most int) [][]E {
	all := [][]E{nil}
	from := 0
	for range most {
		to := len(all)
		for _, row := range all[from:to] {
			for _, c := range of {
				all = append(all, append(slices.Clone(row), c))
			}
		}
		from = to
	}
	return all
}

// every are all octets.
func every() []byte {
	all := make([]byte, 256)
	for i := range all {
		all[i] = byte(i)
	}
	return all
}

// few are signs that tell repertoires apart, and numbers that are no signs.
var few = []rune{0, 'a', 0x7F, 0x80, 0x9F, 0xA4, 0xE9, 0x20AC, 0x201C, 0xFFFD, 0x1F600, 0xD800, -1}

// fewOctets are octets that tell readings apart: of each charset others, and
// beginnings of signs and what may stand behind them.
var fewOctets = []byte{0, 'a', 0x7F, 0x80, 0x81, 0x9F, 0xA0, 0xA4, 0xBF, 0xC0, 0xC3, 0xE0, 0xE2, 0xED, 0xEF, 0xF0, 0xF4, 0xFF}

// noScalars are numbers that are no scalar values, some of which are a sign
// once they are cut to fewer bits, or turned to their opposite.
var noScalars = []rune{
	-1, -2, -'a', -0x80, -0xE9, -0x100 + 'a', -0x20AC, -0xFFFD, math.MinInt32, math.MinInt32 + 'a',
	0xD800, 0xDBFF, 0xDC00, 0xDFFF, 0x110000, 0x110000 + 'a', 0x200000 + 'a', 1<<24 + 'a', math.MaxInt32,
}

// checkText holds what is told of a text against these tests' lists.
func checkText(t *testing.T, text []rune) {
	t.Helper()
	for charset := range 7 {
		want, errno := expectedLay(charset, text)
		if got, err := Lay(charset, text); !bytes.Equal(got, want) || err != errno {
			t.Fatalf("Lay(%d, %X) = % X, %d, want % X, %d", charset, text, got, err, want, errno)
		}
	}
	charset := expectedSelect(text)
	want, _ := expectedLay(charset, text)
	errno := api.OK
	if charset == 0 {
		errno = 7
	}
	if n, got, err := Auto(text); n != charset || !bytes.Equal(got, want) || err != errno {
		t.Fatalf("Auto(%X) = %d, % X, %d, want %d, % X, %d", text, n, got, err, charset, want, errno)
	}
}

// checkOctets holds what is told of octets against these tests' lists.
func checkOctets(t *testing.T, s []byte) {
	t.Helper()
	for from := range 7 {
		want := expectedRead(from, s)
		if got := Read(from, s); !slices.Equal(got, want) {
			t.Fatalf("Read(%d, % X) = %X, want %X", from, s, got, want)
		}
		back, errno := expectedLay(from, want)
		if got := Exact(from, s); got != (errno == api.OK && bytes.Equal(back, s)) {
			t.Fatalf("Exact(%d, % X) = %v, and it is laid as % X, %d", from, s, got, back, errno)
		}
		for to := range 7 {
			moved, errno := expectedLay(to, want)
			if got, err := Move(from, to, s); !bytes.Equal(got, moved) || err != errno {
				t.Fatalf("Move(%d, %d, % X) = % X, %d, want % X, %d", from, to, s, got, err, moved, errno)
			}
		}
	}
}

// P13.1

func TestLay(t *testing.T) {
	cases := []struct {
		charset int
		text    []rune
		want    string
		errno   api.Errno
	}{
		{1, []rune("plain\r\n"), "plain\r\n", 0},
		{1, []rune{0, 0x7F}, "\x00\x7F", 0},
		{1, []rune{'a', 0x80}, "", 9},
		{1, []rune{0xE9}, "", 9},
		{1, []rune{0xFFFD}, "", 9},
		{2, []rune{'a', 0x80, 0xA4, 0xFF}, "a\x80\xA4\xFF", 0},
		{2, []rune{'a', 0x100}, "", 9},
		{2, []rune{0x20AC, 'a'}, "", 9},
		{3, []rune{0x20AC, 0x80, 0xE9}, "\xA4\x80\xE9", 0},
		{3, []rune{0x20AC, 0xA4}, "", 9},
		{3, []rune{0x201C}, "", 9},
		{4, []rune{0x20AC, 0xA4, 0x201C}, "\x80\xA4\x93", 0},
		{4, []rune{0x80}, "", 9},
		{4, []rune{0x81}, "", 9},
		{4, []rune{0xFFFD}, "", 9},
		{5, []rune{'a', 0xE9, 0x20AC, 0x1F600}, "a\xC3\xA9\xE2\x82\xAC\xF0\x9F\x98\x80", 0},
		{5, []rune{0xFFFD, 0x10FFFF}, "\xEF\xBF\xBD\xF4\x8F\xBF\xBF", 0},
		{5, []rune{'a', 0xD800}, "", 9},
		{5, []rune{0x110000}, "", 9},
		{5, []rune{-1, 'a'}, "", 9},
		{0, []rune("a"), "", 10},
		{6, []rune("a"), "", 10},
		{-1, []rune{0xD800}, "", 10},
	}
	for _, x := range cases {
		if got, err := Lay(x.charset, x.text); string(got) != x.want || err != x.errno {
			t.Errorf("Lay(%d, %X) = % X, %d", x.charset, x.text, got, err)
		}
	}
}

func TestNoCharsetIsToldFirst(t *testing.T) {
	for _, charset := range noCharsets {
		for _, text := range rows(few, 2) {
			if got, err := Lay(charset, text); len(got) != 0 || err != api.ErrCharset {
				t.Fatalf("Lay(%d, %X) = % X, %d", charset, text, got, err)
			}
		}
	}
}

func TestWhatIsNoScalarValueIsLacked(t *testing.T) {
	for _, c := range noScalars {
		for _, charset := range charsets {
			for at := range 4 {
				text := []rune("text")
				text[at] = c
				if got, err := Lay(charset, text); len(got) != 0 || err != api.ErrChar {
					t.Errorf("Lay(%d, %X) = % X, %d", charset, text, got, err)
				}
			}
			if got := Len(charset, c); got != 0 {
				t.Errorf("Len(%d, %X) = %d", charset, c, got)
			}
		}
	}
}

func TestLackingAtEveryPlaceOfALongText(t *testing.T) {
	lacked := map[int]rune{1: 0xE9, 2: 0x20AC, 3: 0xA4, 4: 0x81, 5: 0xDFFF}
	for _, charset := range charsets {
		for at := range 40 {
			text := slices.Repeat([]rune{'a'}, 40)
			text[at] = lacked[charset]
			if got, err := Lay(charset, text); len(got) != 0 || err != api.ErrChar {
				t.Errorf("Lay(%d) with %X at %d = % X, %d", charset, text[at], at, got, err)
			}
		}
	}
}

func TestEveryNumberNearTheRange(t *testing.T) {
	for c := rune(-0x1000); c <= 0x10FFFF+0x1000; c++ {
		for _, charset := range charsets {
			want, has := expectedSign(charset, c)
			if !has {
				want = nil
			}
			if got := Len(charset, c); got != len(want) {
				t.Fatalf("Len(%d, %X) = %d, want %d", charset, c, got, len(want))
			}
			got, err := Lay(charset, []rune{c})
			if !bytes.Equal(got, want) || (err == api.OK) != has || !has && err != api.ErrChar {
				t.Fatalf("Lay(%d, %X) = % X, %d, want % X", charset, c, got, err, want)
			}
			if has && !slices.Equal(Read(charset, got), []rune{c}) {
				t.Fatalf("% X of %d is read as %X, not as %X", got, charset, Read(charset, got), c)
			}
		}
	}
}

func TestLen(t *testing.T) {
	cases := []struct {
		c                               rune
		ascii, latin1, latin9, win, utf int
	}{
		{0, 1, 1, 1, 1, 1},
		{0x7F, 1, 1, 1, 1, 1},
		{0x80, 0, 1, 1, 0, 2},
		{0xA4, 0, 1, 0, 1, 2},
		{0xFF, 0, 1, 1, 1, 2},
		{0x152, 0, 0, 1, 1, 2},
		{0x7FF, 0, 0, 0, 0, 2},
		{0x800, 0, 0, 0, 0, 3},
		{0x201C, 0, 0, 0, 1, 3},
		{0x20AC, 0, 0, 1, 1, 3},
		{0xD7FF, 0, 0, 0, 0, 3},
		{0xD800, 0, 0, 0, 0, 0},
		{0xDFFF, 0, 0, 0, 0, 0},
		{0xE000, 0, 0, 0, 0, 3},
		{0xFFFD, 0, 0, 0, 0, 3},
		{0x10000, 0, 0, 0, 0, 4},
		{0x10FFFF, 0, 0, 0, 0, 4},
		{0x110000, 0, 0, 0, 0, 0},
		{-1, 0, 0, 0, 0, 0},
	}
	for _, x := range cases {
		for i, want := range []int{x.ascii, x.latin1, x.latin9, x.win, x.utf} {
			if got := Len(i+1, x.c); got != want {
				t.Errorf("Len(%d, %X) = %d, want %d", i+1, x.c, got, want)
			}
		}
		for _, charset := range noCharsets {
			if got := Len(charset, x.c); got != 0 {
				t.Errorf("Len(%d, %X) = %d", charset, x.c, got)
			}
		}
	}
}

func TestExample(t *testing.T) {
	if got := Read(api.ASCII, []byte{0xFF}); !slices.Equal(got, []rune{0xFFFD}) {
		t.Errorf("FF is read as %X of ASCII", got)
	}
	if got := Read(9, []byte{0xFF}); !slices.Equal(got, []rune{0xFF}) {
		t.Errorf("FF is read as %X of 9", got)
	}
}

func TestRead(t *testing.T) {
	cases := []struct {
		charset int
		s       string
		want    []rune
	}{
		{1, "a\x00\x7F\x80\xE9b", []rune{'a', 0, 0x7F, none, none, 'b'}},
		{2, "a\x80\xA4\xFF", []rune{'a', 0x80, 0xA4, 0xFF}},
		{3, "a\x80\xA4\xFF", []rune{'a', 0x80, 0x20AC, 0xFF}},
		{4, "a\x80\x81\xA4\xFF", []rune{'a', 0x20AC, none, 0xA4, 0xFF}},
		{5, "a\xC3\xA9\xFF\xE2\x82b\xF0\x9F", []rune{'a', 0xE9, none, none, 'b', none}},
		{5, "\xED\xA0\x80\xEF\xBF\xBD", []rune{none, none, none, 0xFFFD}},
		{0, "\x80\xA4", []rune{0x80, 0xA4}},
		{6, "\xC3\xA9", []rune{0xC3, 0xA9}},
	}
	for _, x := range cases {
		if got := Read(x.charset, []byte(x.s)); !slices.Equal(got, x.want) {
			t.Errorf("Read(%d, % X) = %X", x.charset, x.s, got)
		}
	}
}

func TestOfNoCharsetOctetsAreReadAsLatin1(t *testing.T) {
	for _, charset := range noCharsets {
		if got := Read(charset, every()); !slices.Equal(got, tables[2]) {
			t.Errorf("of %d all octets are read as %X", charset, got)
		}
		for _, s := range rows(fewOctets, 2) {
			if got := Read(charset, s); !slices.Equal(got, Read(api.Latin1, s)) {
				t.Errorf("Read(%d, % X) = %X", charset, s, got)
			}
		}
	}
}

// P13.1 and P13.2, over many inputs

func TestTextsOfFewSigns(t *testing.T) {
	for _, text := range rows(few, 4) {
		checkText(t, text)
	}
}

func TestTextsOfEveryOctet(t *testing.T) {
	for a := rune(0); a < 256; a++ {
		for b := rune(0); b < 256; b++ {
			checkText(t, []rune{a, b})
		}
	}
}

func TestEveryTwoOctets(t *testing.T) {
	for _, s := range rows(every(), 2) {
		checkOctets(t, s)
	}
}

func TestOctetsInRows(t *testing.T) {
	for _, s := range rows(fewOctets, 3) {
		checkOctets(t, s)
	}
	for _, s := range rows([]byte{'a', 0x80, 0x90, 0xBF, 0xE2, 0xF0, 0xF4}, 5) {
		checkOctets(t, s)
	}
	for _, charset := range charsets {
		checkOctets(t, bytes.Repeat(every(), charset))
	}
}

// P13.2

func TestAuto(t *testing.T) {
	cases := []struct {
		text    []rune
		charset int
		want    string
	}{
		{nil, 1, ""},
		{[]rune("plain"), 1, "plain"},
		{[]rune{'a', 0xE9}, 2, "a\xE9"},
		{[]rune{0xA4}, 2, "\xA4"},
		{[]rune{0xE9, 0x20AC}, 3, "\xE9\xA4"},
		{[]rune{0xE9, 0x201C}, 4, "\xE9\x93"},
		{[]rune{0xA4, 0x20AC}, 4, "\xA4\x80"},
		{[]rune{0x80, 0x201C}, 5, "\xC2\x80\xE2\x80\x9C"},
		{[]rune{'a', 0x1F600}, 5, "a\xF0\x9F\x98\x80"},
		{[]rune{0xFFFD}, 5, "\xEF\xBF\xBD"},
	}
	for _, x := range cases {
		if n, got, err := Auto(x.text); n != x.charset || string(got) != x.want || err != api.OK {
			t.Errorf("Auto(%X) = %d, % X, %d", x.text, n, got, err)
		}
	}
}

func TestAutoOfWhatIsNotRight(t *testing.T) {
	for _, wrong := range noScalars {
		for at := range 5 {
			text := []rune{'a', 0xE9, 0x20AC, 0x201C, 0x1F600}
			text[at] = wrong
			for _, part := range [][]rune{text, text[at:], text[:at+1], text[at : at+1]} {
				if n, got, err := Auto(part); n != 0 || len(got) != 0 || err != api.ErrScalar {
					t.Errorf("Auto(%X) = %d, % X, %d", part, n, got, err)
				}
			}
		}
	}
}

func TestExact(t *testing.T) {
	cases := []struct {
		charset int
		s       string
		want    bool
	}{
		{1, "plain\x00\x7F", true},
		{1, "a\x80", false},
		{1, "\xFF", false},
		{2, "\x80\x81\xFF", true},
		{3, "\x80\xA4\xFF", true},
		{4, "\x80\xA4\xFF", true},
		{4, "a\x81", false},
		{4, "\x9D", false},
		{5, "a\xC3\xA9", true},
		{5, "\xEF\xBF\xBD", true},
		{5, "\xC3", false},
		{5, "\xC0\x80", false},
		{5, "\xED\xA0\x80", false},
		{5, "a\xFFb", false},
	}
	for _, x := range cases {
		if got := Exact(x.charset, []byte(x.s)); got != x.want {
			t.Errorf("Exact(%d, % X) = %v", x.charset, x.s, got)
		}
	}
	for _, charset := range noCharsets {
		for _, s := range rows(fewOctets, 2) {
			if Exact(charset, s) {
				t.Errorf("Exact(%d, % X) = true", charset, s)
			}
		}
	}
}

func TestExactOfEveryOctet(t *testing.T) {
	exact := map[int]int{1: 128, 2: 256, 3: 256, 4: 251, 5: 128}
	for _, charset := range charsets {
		many := 0
		for _, x := range every() {
			if Exact(charset, []byte{x}) {
				many++
			}
		}
		if many != exact[charset] {
			t.Errorf("of %d %d octets are exact", charset, many)
		}
	}
}

func TestMove(t *testing.T) {
	cases := []struct {
		from, to int
		s, want  string
		errno    api.Errno
	}{
		{4, 5, "\x80\xE9", "\xE2\x82\xAC\xC3\xA9", 0},
		{5, 4, "\xE2\x82\xAC\xC3\xA9", "\x80\xE9", 0},
		{3, 4, "\xA4", "\x80", 0},
		{4, 3, "\x80\xA4", "", 9},
		{2, 1, "plain", "plain", 0},
		{2, 1, "\xE9", "", 9},
		{1, 2, "\xE9", "", 9},
		{1, 5, "a\xE9", "a\xEF\xBF\xBD", 0},
		{4, 5, "\x81", "\xEF\xBF\xBD", 0},
		{4, 4, "\x81", "", 9},
		{5, 5, "a\xE2\x82\xFF", "a\xEF\xBF\xBD\xEF\xBF\xBD", 0},
		{5, 2, "a\xFF", "", 9},
		{5, 0, "\xFF", "", 10},
		{9, 2, "\xFF", "\xFF", 0},
		{9, 5, "\xFF", "\xC3\xBF", 0},
		{0, 1, "\xFF", "", 9},
		{0, 6, "a", "", 10},
	}
	for _, x := range cases {
		if got, err := Move(x.from, x.to, []byte(x.s)); string(got) != x.want || err != x.errno {
			t.Errorf("Move(%d, %d, % X) = % X, %d", x.from, x.to, x.s, got, err)
		}
	}
}

func TestMoveFromAndToNoCharset(t *testing.T) {
	s := []byte{'a', 0xC3, 0xA9}
	for _, charset := range noCharsets {
		for _, other := range append(slices.Clone(charsets), noCharsets...) {
			if got, err := Move(other, charset, s); len(got) != 0 || err != api.ErrCharset {
				t.Errorf("Move(%d, %d) = % X, %d", other, charset, got, err)
			}
			want, errno := Move(api.Latin1, other, s)
			if got, err := Move(charset, other, s); !bytes.Equal(got, want) || err != errno {
				t.Errorf("Move(%d, %d) = % X, %d, want % X, %d", charset, other, got, err, want, errno)
			}
		}
	}
}

// P13.3

// checkLaid holds what is laid of a text against what it is read as.
func checkLaid(t *testing.T, charset int, text []rune, s []byte) {
	t.Helper()
	if got := Read(charset, s); !slices.Equal(got, text) || !Exact(charset, s) {
		t.Fatalf("%X is laid in %d as % X, read as %X, exact: %v", text, charset, s, got, Exact(charset, s))
	}
	if got, err := Move(charset, charset, s); !bytes.Equal(got, s) || err != api.OK {
		t.Fatalf("% X of %d is moved to itself as % X, %d", s, charset, got, err)
	}
	many := 0
	for _, c := range text {
		many += Len(charset, c)
	}
	if many != len(s) {
		t.Fatalf("the signs of %X have %d octets in %d, but it is laid as % X", text, many, charset, s)
	}
}

func TestWhatIsLaidIsReadAndExact(t *testing.T) {
	for _, text := range rows(few, 4) {
		for _, charset := range charsets {
			if s, err := Lay(charset, text); err == api.OK {
				checkLaid(t, charset, text, s)
			}
		}
		if charset, s, err := Auto(text); err == api.OK {
			checkLaid(t, charset, text, s)
		}
	}
}

func TestAllSignsOfACharset(t *testing.T) {
	for _, charset := range charsets {
		var text []rune
		for c := rune(0); c <= 0x10FFFF; c++ {
			if Len(charset, c) > 0 {
				text = append(text, c)
			}
		}
		s, err := Lay(charset, text)
		if err != api.OK || !slices.Equal(Read(charset, s), text) || !Exact(charset, s) {
			t.Errorf("the %d signs of %d are laid as %d octets, %d, and not read", len(text), charset, len(s), err)
		}
	}
}

// P13.4

func TestAtMostAsManySignsAsOctets(t *testing.T) {
	for _, s := range rows(fewOctets, 3) {
		for _, charset := range append(slices.Clone(charsets), noCharsets...) {
			many := len(Read(charset, s))
			if many > len(s) || charset != api.UTF8 && many != len(s) {
				t.Fatalf("of % X %d signs are read in %d", s, many, charset)
			}
		}
	}
	for _, text := range rows(few, 3) {
		for _, charset := range charsets {
			s, err := Lay(charset, text)
			if err == api.OK && (len(text) > len(s) || charset != api.UTF8 && len(text) != len(s)) {
				t.Fatalf("%X is laid in %d as % X", text, charset, s)
			}
		}
	}
}

func TestWhatIsReadIsOfScalarValues(t *testing.T) {
	for _, s := range rows(every(), 2) {
		for charset := range 7 {
			for _, c := range Read(charset, s) {
				if !utf8.ValidRune(c) {
					t.Fatalf("of % X %X is read in %d", s, c, charset)
				}
			}
		}
	}
}

// R3

func TestAnswersHangOnArgumentsAlone(t *testing.T) {
	for range 3 {
		if s, err := Lay(4, []rune{0x20AC}); string(s) != "\x80" || err != api.OK {
			t.Errorf("Lay = % X, %d", s, err)
		}
		if s, err := Lay(4, []rune{0x81}); len(s) != 0 || err != api.ErrChar {
			t.Errorf("Lay of what lacks = % X, %d", s, err)
		}
		if n, s, err := Auto([]rune{0xA4}); n != 2 || string(s) != "\xA4" || err != api.OK {
			t.Errorf("Auto = %d, % X, %d", n, s, err)
		}
		if n, s, err := Auto([]rune{-1}); n != 0 || len(s) != 0 || err != api.ErrScalar {
			t.Errorf("Auto of what is not right = %d, % X, %d", n, s, err)
		}
	}
}

// R4

// fill fills a list to its capacity, so that memory that is shared shows.
func fill[E any](s []E, with E) {
	s = s[:cap(s)]
	for i := range s {
		s[i] = with
	}
}

// roomy is a list with room behind its end, that is filled.
func roomy[E any](s []E, with E) []E {
	list := make([]E, len(s), len(s)+16)
	fill(list, with)
	copy(list, s)
	return list
}

// sharesNothing asks a call twice, writes into an answer and into what was
// handed in, and looks whether anything else turns.
func sharesNothing[A, B comparable](t *testing.T, name string, call func([]A) []B, s []A, room A, with B) {
	t.Helper()
	handed := roomy(s, room)
	kept := slices.Clone(handed[:cap(handed)])
	answer := call(handed)
	before := slices.Clone(answer)
	fill(call(handed), with)
	if !slices.Equal(handed[:cap(handed)], kept) || !slices.Equal(answer, before) {
		t.Errorf("%s: an answer that is written into leaves %v of %v, and turns %v to %v", name, handed, s, before, answer)
	}
	fill(handed, room)
	if !slices.Equal(answer, before) {
		t.Errorf("%s: the answer %v turns to %v", name, before, answer)
	}
	if third := call(s); !slices.Equal(third, before) {
		t.Errorf("%s is %v, and later %v", name, before, third)
	}
}

func TestListsAreLeftAndShareNothing(t *testing.T) {
	texts := [][]rune{nil, {'a'}, {'a', 'b', 0x7F}, {'a', 0xE9}, {0xE9, 0x20AC}, {0xA4, 0x20AC}, {'a', 0x1F600}, {'a', 0xD800}}
	octets := [][]byte{nil, []byte("a"), []byte("a\x80"), []byte("\xA4\x81b"), []byte("\xC3\xA9"), []byte("\xE2\x82"), []byte("\xFF")}
	auto := func(t []rune) []byte { _, s, _ := Auto(t); return s }
	for _, text := range texts {
		sharesNothing(t, "Auto", auto, text, 0x82, 'X')
	}
	for charset := range 7 {
		lay := func(t []rune) []byte { s, _ := Lay(charset, t); return s }
		for _, text := range texts {
			sharesNothing(t, fmt.Sprint("Lay ", charset), lay, text, 0x82, 'X')
		}
		read := func(s []byte) []rune { return Read(charset, s) }
		exact := func(s []byte) []bool { return []bool{Exact(charset, s)} }
		for _, s := range octets {
			sharesNothing(t, fmt.Sprint("Read ", charset), read, s, 0xAC, 'X')
			sharesNothing(t, fmt.Sprint("Exact ", charset), exact, s, 0xAC, false)
			for to := range 7 {
				move := func(s []byte) []byte { out, _ := Move(charset, to, s); return out }
				sharesNothing(t, fmt.Sprint("Move ", charset, to), move, s, 0xAC, 'X')
			}
		}
	}
}

func TestWhatLiesBehindTheEndIsNotAsked(t *testing.T) {
	for _, text := range [][]rune{nil, {'a'}, {0x20AC}, {0xA4, 0x20AC}} {
		checkText(t, roomy(text, -1))
	}
	for _, s := range [][]byte{nil, {'a'}, {0xC3}, {0xE2, 0x82}, {0xF0, 0x9F, 0x98}} {
		checkOctets(t, roomy(s, 0x82))
	}
}

// R5

func TestNilAndEmpty(t *testing.T) {
	for _, text := range [][]rune{nil, {}} {
		for _, charset := range charsets {
			if s, err := Lay(charset, text); len(s) != 0 || err != api.OK {
				t.Errorf("Lay(%d) of none = % X, %d", charset, s, err)
			}
		}
		for _, charset := range noCharsets {
			if s, err := Lay(charset, text); len(s) != 0 || err != api.ErrCharset {
				t.Errorf("Lay(%d) of none = % X, %d", charset, s, err)
			}
		}
		if n, s, err := Auto(text); n != api.ASCII || len(s) != 0 || err != api.OK {
			t.Errorf("Auto of none = %d, % X, %d", n, s, err)
		}
	}
	for _, s := range [][]byte{nil, {}} {
		for _, charset := range append(slices.Clone(charsets), noCharsets...) {
			in := charset >= 1 && charset <= 5
			if got := Read(charset, s); len(got) != 0 || Exact(charset, s) != in {
				t.Errorf("Read(%d) of none = %X, exact: %v", charset, got, Exact(charset, s))
			}
			errno := api.OK
			if !in {
				errno = api.ErrCharset
			}
			if got, err := Move(api.UTF8, charset, s); len(got) != 0 || err != errno {
				t.Errorf("Move to %d of none = % X, %d", charset, got, err)
			}
		}
	}
}
