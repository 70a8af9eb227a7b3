package ewcost

import (
	"encoding/base64"
	"math"
	"slices"
	"strings"
	"testing"
	"unicode/utf8"

	"sheave/api"
	"sheave/codec"
	"sheave/ewform"
)

// The codes' numbers, written out.
const (
	codeB = 1
	codeQ = 2
)

// charsets are all of them, and noCharsets some numbers that are none, as noCodes are.
var (
	charsets   = []int{api.ASCII, api.Latin1, api.Latin9, api.Win, api.UTF8}
	noCharsets = []int{math.MinInt, -1, 0, 6, 7, 256 + 1, 1<<32 + 1, math.MaxInt}
	codes      = []int{codeB, codeQ}
	noCodes    = []int{math.MinInt, -1, 0, 3, 4, 'B', 'Q', 256 + 1, 1<<32 + 1, math.MaxInt}
	someRooms  = []int{math.MinInt, -1, 0, 1, 12, 15, 16, 17, 19, 20, 21, 23, 24, 40, 60, 73, 74, 75, 76, 77, 80, 200, math.MaxInt}
)

// namesOf are the names that charsets are laid with.
func namesOf() map[int]string {
	return map[int]string{api.ASCII: "us-ascii", api.Latin1: "iso-8859-1", api.Latin9: "iso-8859-15", api.Win: "windows-1252", api.UTF8: "utf-8"}
}

// octetsExpected are a text's in a charset, and whether it has all of the text.
func octetsExpected(charset int, t []rune) ([]byte, bool) {
	var out []byte
	for _, c := range t {
		one, ok := octetExpected(charset, c)
		if !ok {
			return nil, false
		}
		out = append(out, one...)
	}
	return out, true
}

// octetExpected are a sign's, by the library or, of what it knows not, layer 13.
func octetExpected(charset int, c rune) ([]byte, bool) {
	switch {
	case charset == api.UTF8:
		return utf8.AppendRune(nil, c), utf8.ValidRune(c)
	case charset == api.ASCII:
		return []byte{byte(c)}, 0 <= c && c < 0x80
	case charset == api.Latin1:
		return []byte{byte(c)}, 0 <= c && c < 0x100
	}
	one, err := codec.Lay(charset, []rune{c})
	return one, err == api.OK
}

// textExpected is the text of an encoded-word by the words, of which the library codes the one.
func textExpected(code int, s []byte) string {
	if code == codeB {
		return base64.StdEncoding.EncodeToString(s)
	}
	var out strings.Builder
	for _, c := range s {
		switch {
		case c == ' ':
			out.WriteByte('_')
		case strings.IndexByte("!*+-/0123456789ABCDEFGHIJKLMNOPQRSTUVWXYZabcdefghijklmnopqrstuvwxyz", c) >= 0:
			out.WriteByte(c)
		default:
			out.WriteString(string([]byte{'=', "0123456789ABCDEF"[c>>4], "0123456789ABCDEF"[c&15]}))
		}
	}
	return out.String()
}

// lens is what is told of a text's length.
type lens struct {
	text, all int
	err       api.Errno
}

// lenExpected is that by the words: the text is laid, and its octets are counted.
func lenExpected(charset, code int, t []rune) lens {
	name, known := namesOf()[charset]
	if !known {
		return lens{err: api.ErrCharset}
	}
	if code != codeB && code != codeQ {
		return lens{err: api.ErrForm}
	}
	octets, ok := octetsExpected(charset, t)
	if !ok {
		return lens{err: api.ErrChar}
	}
	text := textExpected(code, octets)
	return lens{text: len(text), all: len("=?" + name + "?Q?" + text + "?=")}
}

// fitsExpected is whether a text fits, by the words.
func fitsExpected(charset, code int, t []rune, room int) bool {
	want := lenExpected(charset, code, t)
	return want.err == api.OK && len(t) > 0 && want.all <= room && want.all <= 75
}

// prefixExpected is how much of it does: each beginning is tried, the longest first.
func prefixExpected(charset, code int, t []rune, room int) int {
	// No encoded-word has more signs than octets.
	for many := min(len(t), 76); many > 0; many-- {
		if fitsExpected(charset, code, t[:many], room) {
			return many
		}
	}
	return 0
}

// betterExpected is the better code by the words.
func betterExpected(charset int, t []rune) (int, api.Errno) {
	b, q := lenExpected(charset, codeB, t), lenExpected(charset, codeQ, t)
	switch {
	case b.err != api.OK:
		return 0, b.err
	case q.all <= b.all:
		return codeQ, api.OK
	}
	return codeB, api.OK
}

// checkLens holds what is told of a text's lengths against what is expected.
func checkLens(t *testing.T, charset int, signs []rune) {
	t.Helper()
	for _, code := range append([]int{0, 3}, codes...) {
		want := lenExpected(charset, code, signs)
		all, err := Len(charset, code, signs)
		if got := (lens{text: Text(charset, code, signs), all: all, err: err}); got != want {
			t.Fatalf("of %X by %d in %d is told %+v, want %+v", signs, code, charset, got, want)
		}
	}
	got, err := Better(charset, signs)
	if want, wantErr := betterExpected(charset, signs); got != want || err != wantErr {
		t.Fatalf("Better(%d, %X) = %d, %d, want %d, %d", charset, signs, got, err, want, wantErr)
	}
	want := lenExpected(charset, codeB, signs).text - lenExpected(charset, codeQ, signs).text
	if got := Saved(charset, signs); got != want {
		t.Fatalf("Saved(%d, %X) = %d, want %d", charset, signs, got, want)
	}
}

// checkFits holds what is told of a room against what is expected, and against layer 29.
func checkFits(t *testing.T, charset, code int, signs []rune, room int) {
	t.Helper()
	fits, prefix := Fits(charset, code, signs, room), Prefix(charset, code, signs, room)
	if want := fitsExpected(charset, code, signs, room); fits != want {
		t.Fatalf("Fits(%d, %d, %X, %d) = %t", charset, code, signs, room, fits)
	}
	if want := prefixExpected(charset, code, signs, room); prefix != want {
		t.Fatalf("Prefix(%d, %d, %X, %d) = %d, want %d", charset, code, signs, room, prefix, want)
	}
	for many := 1; many <= min(len(signs), prefix+3); many++ {
		if got := Fits(charset, code, signs[:many], room); got != (many <= prefix) {
			t.Fatalf("Fits(%d, %d, %X, %d) = %t, and Prefix tells %d", charset, code, signs[:many], room, got, prefix)
		}
	}
	if prefix > 0 {
		checkLaid(t, charset, code, signs[:prefix], room)
	}
}

// checkLaid lays what fits: P30.3.
func checkLaid(t *testing.T, charset, code int, signs []rune, room int) {
	t.Helper()
	octets, err := codec.Lay(charset, signs)
	if err != api.OK {
		t.Fatalf("%X fits, and is not laid in %d: %d", signs, charset, err)
	}
	word, err := ewform.Lay(charset, code, octets)
	if err != api.OK || len(word) > room || len(word) > 75 {
		t.Fatalf("%X fits in %d, and is laid as %q, %d", signs, room, word, err)
	}
	if many, err := Len(charset, code, signs); many != len(word) || err != api.OK {
		t.Fatalf("Len(%d, %d, %X) = %d, %d, and it is laid as %q", charset, code, signs, many, err, word)
	}
	if parts, err := ewform.Parse(word); err != api.OK || Text(charset, code, signs) != len(parts.Text) {
		t.Fatalf("Text(%d, %d, %X) = %d, and it is laid as %q", charset, code, signs, Text(charset, code, signs), word)
	}
	if read, ok := ewform.Read(word); !ok || !slices.Equal(read, signs) {
		t.Fatalf("%X is laid as %q, and read as %X", signs, word, read)
	}
}

// every hands on all lists of these elements of so many of them.
func every[E any](of []E, many int, do func(s []E)) {
	s := make([]E, many)
	var from func(at int)
	from = func(at int) {
		if at == many {
			do(s)
			return
		}
		for _, c := range of {
			s[at] = c
			from(at + 1)
		}
	}
	from(0)
}

// someOf is a row of so many of these signs that has no short period.
func someOf(of []rune, many int) []rune {
	s := make([]rune, many)
	x := uint32(many) + 1
	for i := range s {
		x = x*1664525 + 1013904223
		s[i] = of[int(x>>16)%len(of)]
	}
	return s
}

// row is a sign so many times.
func row(c rune, many int) []rune { return slices.Repeat([]rune{c}, many) }

// kinds are signs of each length, by each code and charset, and numbers that are none.
func kinds() []rune {
	return []rune{'a', ' ', '=', '?', '_', 0, '\n', 0x7F, 0x80, 0xA4, 0xE9, 0x160, 0x20AC, 0x7FF, 0x800, 0xFFFD, 0xFFFF, 0x1F600, 0x10FFFF, 0xD800, 0xDFFF, 0x110000, -1, math.MinInt32, math.MaxInt32}
}

// P30.1

func TestLenCases(t *testing.T) {
	cases := []struct {
		charset, code int
		t             []rune
		text, all     int
		err           api.Errno
	}{
		{api.ASCII, codeQ, []rune("a"), 1, 16, api.OK}, {api.ASCII, codeB, []rune("a"), 4, 19, api.OK}, {api.ASCII, codeB, []rune("ab"), 4, 19, api.OK}, {api.ASCII, codeB, []rune("abc"), 4, 19, api.OK}, {api.ASCII, codeB, []rune("abcd"), 8, 23, api.OK}, {api.ASCII, codeQ, []rune("abcd"), 4, 19, api.OK}, {api.ASCII, codeQ, []rune("a b"), 3, 18, api.OK}, {api.ASCII, codeQ, []rune("a_b"), 5, 20, api.OK}, {api.ASCII, codeQ, []rune("=?\n\x00"), 12, 27, api.OK},
		{api.Latin1, codeQ, []rune{0xE9}, 3, 20, api.OK}, {api.Latin1, codeB, []rune{0xE9}, 4, 21, api.OK}, {api.Latin9, codeQ, []rune{0x20AC}, 3, 21, api.OK}, {api.Latin9, codeB, []rune{0x20AC}, 4, 22, api.OK}, {api.Win, codeQ, []rune{0x20AC}, 3, 22, api.OK}, {api.Win, codeB, []rune{0x20AC}, 4, 23, api.OK},
		{api.UTF8, codeQ, []rune{0xE9}, 6, 18, api.OK}, {api.UTF8, codeB, []rune{0xE9}, 4, 16, api.OK}, {api.UTF8, codeQ, []rune{0x20AC}, 9, 21, api.OK}, {api.UTF8, codeB, []rune{0x20AC}, 4, 16, api.OK}, {api.UTF8, codeQ, []rune{0x1F600}, 12, 24, api.OK}, {api.UTF8, codeB, []rune{0x1F600}, 8, 20, api.OK}, {api.UTF8, codeB, []rune{0x1F600, 'a'}, 8, 20, api.OK}, {api.UTF8, codeB, []rune{0x1F600, 0x1F600}, 12, 24, api.OK},
		// The frame alone.
		{api.ASCII, codeQ, nil, 0, 15, api.OK}, {api.ASCII, codeB, nil, 0, 15, api.OK}, {api.Latin1, codeQ, nil, 0, 17, api.OK}, {api.Latin9, codeB, nil, 0, 18, api.OK}, {api.Win, codeQ, nil, 0, 19, api.OK}, {api.UTF8, codeB, nil, 0, 12, api.OK},
		// However many octets those are.
		{api.ASCII, codeQ, row('a', 60), 60, 75, api.OK}, {api.ASCII, codeQ, row('a', 61), 61, 76, api.OK}, {api.ASCII, codeB, row('a', 46), 64, 79, api.OK}, {api.UTF8, codeQ, row(0x1F600, 1000), 12000, 12012, api.OK}, {api.UTF8, codeB, row(0x1F600, 1000), 5336, 5348, api.OK},
		// What the charset has not.
		{api.ASCII, codeQ, []rune{0x80}, 0, 0, api.ErrChar}, {api.ASCII, codeB, []rune{'a', 0xE9}, 0, 0, api.ErrChar}, {api.Latin1, codeQ, []rune{0x20AC, 'a'}, 0, 0, api.ErrChar}, {api.Latin9, codeB, []rune{0xA4}, 0, 0, api.ErrChar}, {api.Win, codeQ, []rune{0x81}, 0, 0, api.ErrChar}, {api.UTF8, codeQ, []rune{0xD800}, 0, 0, api.ErrChar}, {api.UTF8, codeB, []rune{'a', 0x110000}, 0, 0, api.ErrChar}, {api.UTF8, codeQ, []rune{-1}, 0, 0, api.ErrChar}, {api.ASCII, codeQ, []rune{-1}, 0, 0, api.ErrChar}, {api.ASCII, codeQ, append(row('a', 100), 0x80), 0, 0, api.ErrChar},
		// What is told first.
		{0, codeQ, []rune("a"), 0, 0, api.ErrCharset}, {6, codeB, nil, 0, 0, api.ErrCharset}, {0, 0, []rune{-1}, 0, 0, api.ErrCharset}, {6, codeQ, []rune{-1}, 0, 0, api.ErrCharset}, {api.ASCII, 0, []rune("a"), 0, 0, api.ErrForm}, {api.UTF8, 3, nil, 0, 0, api.ErrForm}, {api.ASCII, 3, []rune{0x80}, 0, 0, api.ErrForm}, {api.UTF8, 'Q', []rune{-1}, 0, 0, api.ErrForm},
	}
	for _, x := range cases {
		if all, err := Len(x.charset, x.code, x.t); all != x.all || err != x.err {
			t.Errorf("Len(%d, %d, %X) = %d, %d, want %d, %d", x.charset, x.code, x.t, all, err, x.all, x.err)
		}
		if text := Text(x.charset, x.code, x.t); text != x.text {
			t.Errorf("Text(%d, %d, %X) = %d, want %d", x.charset, x.code, x.t, text, x.text)
		}
		checkLens(t, x.charset, x.t)
	}
}

func TestBetterAndSavedCases(t *testing.T) {
	cases := []struct {
		charset       int
		t             []rune
		better, saved int
		err           api.Errno
	}{
		{api.ASCII, nil, codeQ, 0, api.OK}, {api.UTF8, nil, codeQ, 0, api.OK}, {api.ASCII, []rune("a"), codeQ, 3, api.OK}, {api.ASCII, []rune("abc"), codeQ, 1, api.OK}, {api.ASCII, []rune("abcd"), codeQ, 4, api.OK}, {api.Latin1, []rune{0xE9}, codeQ, 1, api.OK}, {api.Latin1, []rune{0xE9, 0xE9}, codeB, -2, api.OK}, {api.Latin1, []rune{0xE9, 0xE9, 0xE9}, codeB, -5, api.OK}, {api.UTF8, []rune{0xE9}, codeB, -2, api.OK}, {api.UTF8, []rune{0x20AC}, codeB, -5, api.OK},
		// Lengths that are equal, and such that part by one.
		{api.ASCII, []rune("a="), codeQ, 0, api.OK}, {api.ASCII, []rune("ab\n"), codeB, -1, api.OK}, {api.ASCII, []rune("abcd\n\n"), codeB, -2, api.OK}, {api.ASCII, []rune("abcde=="), codeQ, 1, api.OK}, {api.ASCII, []rune("a=b=cdef"), codeQ, 0, api.OK}, {api.Latin1, []rune{'a', 0xE9}, codeQ, 0, api.OK}, {api.UTF8, []rune("abcd\u00E9"), codeB, -2, api.OK}, {api.UTF8, []rune("abcde\u00E9"), codeQ, 1, api.OK},
		{api.ASCII, []rune{0xE9}, 0, 0, api.ErrChar}, {api.Latin9, []rune{'a', 0xA4}, 0, 0, api.ErrChar}, {api.UTF8, []rune{0xDFFF}, 0, 0, api.ErrChar}, {0, nil, 0, 0, api.ErrCharset}, {6, []rune("a"), 0, 0, api.ErrCharset}, {-1, []rune{-1}, 0, 0, api.ErrCharset},
	}
	for _, x := range cases {
		if got, err := Better(x.charset, x.t); got != x.better || err != x.err {
			t.Errorf("Better(%d, %X) = %d, %d, want %d, %d", x.charset, x.t, got, err, x.better, x.err)
		}
		if got := Saved(x.charset, x.t); got != x.saved {
			t.Errorf("Saved(%d, %X) = %d, want %d", x.charset, x.t, got, x.saved)
		}
		checkLens(t, x.charset, x.t)
	}
}

// Each sign of the lower ones by itself, and the edges of lengths, in each charset.
func TestEverySign(t *testing.T) {
	signs := kinds()
	for c := rune(-2); c < 0x900; c++ {
		signs = append(signs, c)
	}
	for c := rune(0x2000); c < 0x2200; c++ {
		signs = append(signs, c)
	}
	for _, c := range []rune{0xD7FF, 0xD800, 0xDFFF, 0xE000, 0xFFFF, 0x10000, 0x10FFFF, 0x110000} {
		signs = append(signs, c)
	}
	for _, charset := range append([]int{0, 6}, charsets...) {
		for _, c := range signs {
			checkLens(t, charset, []rune{c})
			for _, code := range codes {
				want := lenExpected(charset, code, []rune{c})
				for _, room := range []int{want.all - 1, want.all, want.all + 1, 75} {
					if got := Fits(charset, code, []rune{c}, room); got != (want.err == api.OK && room >= want.all) {
						t.Fatalf("Fits(%d, %d, %X, %d) = %t", charset, code, c, room, got)
					}
				}
			}
		}
	}
}

// Texts of all kinds of signs, up to three.
func TestEveryShortText(t *testing.T) {
	for _, charset := range append([]int{0, 6}, charsets...) {
		for many := range 4 {
			every(kinds(), many, func(signs []rune) { checkLens(t, charset, signs) })
		}
	}
}

func TestRowsOfLengths(t *testing.T) {
	for _, charset := range charsets {
		for _, c := range kinds() {
			for many := range 100 {
				checkLens(t, charset, row(c, many))
				checkLens(t, charset, append(row('a', many), c))
				checkLens(t, charset, append([]rune{c, ' '}, row('a', many)...))
			}
		}
		for many := range 400 {
			checkLens(t, charset, someOf([]rune{'a', 'b', ' ', '=', 'z'}, many))
			checkLens(t, charset, someOf([]rune{'a', 'e', ' ', 0xE9, 0xFF}, many))
			checkLens(t, charset, someOf([]rune{'a', 0xE9, 0x20AC, 0x1F600}, many))
		}
		checkLens(t, charset, row('a', 100000))
		checkLens(t, charset, row(0xE9, 100000))
	}
}

func TestNumbersThatAreNone(t *testing.T) {
	for _, signs := range [][]rune{nil, []rune("a"), {-1}, row('a', 100)} {
		for _, charset := range noCharsets {
			for _, code := range append(codes, noCodes...) {
				if all, err := Len(charset, code, signs); all != 0 || err != api.ErrCharset || Text(charset, code, signs) != 0 {
					t.Errorf("Len(%d, %d, %X) = %d, %d", charset, code, signs, all, err)
				}
				for _, room := range someRooms {
					checkFits(t, charset, code, signs, room)
				}
			}
			if better, err := Better(charset, signs); better != 0 || err != api.ErrCharset || Saved(charset, signs) != 0 {
				t.Errorf("Better(%d, %X) = %d, %d", charset, signs, better, err)
			}
		}
		for _, charset := range charsets {
			for _, code := range noCodes {
				if all, err := Len(charset, code, signs); all != 0 || err != api.ErrForm || Text(charset, code, signs) != 0 {
					t.Errorf("Len(%d, %d, %X) = %d, %d", charset, code, signs, all, err)
				}
				for _, room := range someRooms {
					checkFits(t, charset, code, signs, room)
				}
			}
		}
	}
}

// P30.2

func TestFitsCases(t *testing.T) {
	cases := []struct {
		charset, code int
		t             []rune
		room, prefix  int
		fits          bool
	}{
		{api.ASCII, codeQ, []rune("a"), 16, 1, true}, {api.ASCII, codeQ, []rune("a"), 15, 0, false}, {api.ASCII, codeQ, []rune("a"), 75, 1, true}, {api.ASCII, codeQ, []rune("a"), math.MaxInt, 1, true}, {api.ASCII, codeB, []rune("a"), 19, 1, true}, {api.ASCII, codeB, []rune("a"), 18, 0, false}, {api.ASCII, codeB, []rune("abc"), 19, 3, true}, {api.ASCII, codeB, []rune("abcd"), 22, 3, false}, {api.ASCII, codeB, []rune("abcd"), 23, 4, true},
		{api.ASCII, codeQ, []rune("abcd"), 18, 3, false}, {api.ASCII, codeQ, []rune("ab=d"), 18, 2, false}, {api.ASCII, codeQ, []rune("ab=d"), 20, 3, false}, {api.ASCII, codeQ, []rune("ab=d"), 21, 4, true},
		// No sign is parted.
		{api.UTF8, codeQ, []rune{0xE9, 0xE9}, 23, 1, false}, {api.UTF8, codeQ, []rune{0xE9, 0xE9}, 24, 2, true}, {api.UTF8, codeQ, []rune{0x1F600}, 23, 0, false}, {api.UTF8, codeQ, []rune{0x1F600}, 24, 1, true}, {api.UTF8, codeB, []rune{0x1F600}, 19, 0, false}, {api.UTF8, codeB, []rune{0x1F600}, 20, 1, true}, {api.UTF8, codeB, []rune{0xE9, 0xE9}, 19, 1, false},
		// At most MaxWord, whatever room there is.
		{api.ASCII, codeQ, row('a', 60), 75, 60, true}, {api.ASCII, codeQ, row('a', 60), 74, 59, false}, {api.ASCII, codeQ, row('a', 61), 75, 60, false}, {api.ASCII, codeQ, row('a', 61), 76, 60, false}, {api.ASCII, codeQ, row('a', 61), math.MaxInt, 60, false}, {api.ASCII, codeB, row('a', 45), 75, 45, true}, {api.ASCII, codeB, row('a', 45), 74, 42, false}, {api.ASCII, codeB, row('a', 46), 80, 45, false}, {api.UTF8, codeQ, row('a', 63), 75, 63, true}, {api.UTF8, codeQ, row('a', 64), 100, 63, false}, {api.UTF8, codeB, row('a', 45), 75, 45, true}, {api.UTF8, codeB, row('a', 46), 100, 45, false}, {api.UTF8, codeB, row('a', 45), 71, 42, false}, {api.UTF8, codeQ, row(0x1F600, 6), 100, 5, false}, {api.UTF8, codeB, row(0x1F600, 12), 100, 11, false}, {api.UTF8, codeB, row(0x1F600, 11), 72, 11, true},
		// The empty text, and no room.
		{api.ASCII, codeQ, nil, 75, 0, false}, {api.ASCII, codeQ, []rune{}, math.MaxInt, 0, false}, {api.ASCII, codeQ, nil, 0, 0, false}, {api.ASCII, codeQ, []rune("a"), 0, 0, false}, {api.ASCII, codeQ, []rune("a"), -1, 0, false}, {api.ASCII, codeB, []rune("a"), math.MinInt, 0, false},
		// What the charset has not.
		{api.ASCII, codeQ, []rune{0xE9}, 75, 0, false}, {api.ASCII, codeQ, []rune{'a', 0xE9}, 75, 1, false}, {api.ASCII, codeB, []rune{'a', 'b', -1, 'c'}, 75, 2, false}, {api.Latin9, codeQ, []rune{0x20AC, 0xA4, 'a'}, 75, 1, false}, {api.UTF8, codeB, []rune{0x1F600, 0xD800}, 75, 1, false}, {api.UTF8, codeQ, []rune{0xDFFF, 'a'}, 75, 0, false}, {api.ASCII, codeQ, append(row('a', 60), 0xE9), 75, 60, false}, {api.ASCII, codeQ, append(row('a', 10), 0xE9), 20, 5, false},
		// Numbers that are none.
		{0, codeQ, []rune("a"), 75, 0, false}, {6, codeB, []rune("a"), 75, 0, false}, {api.ASCII, 0, []rune("a"), 75, 0, false}, {api.ASCII, 3, []rune("a"), 75, 0, false},
	}
	for _, x := range cases {
		if got := Fits(x.charset, x.code, x.t, x.room); got != x.fits {
			t.Errorf("Fits(%d, %d, %X, %d) = %t", x.charset, x.code, x.t, x.room, got)
		}
		if got := Prefix(x.charset, x.code, x.t, x.room); got != x.prefix {
			t.Errorf("Prefix(%d, %d, %X, %d) = %d, want %d", x.charset, x.code, x.t, x.room, got, x.prefix)
		}
		checkFits(t, x.charset, x.code, x.t, x.room)
	}
}

// Short texts of all kinds of signs, in each room about their lengths.
func TestEveryShortRoom(t *testing.T) {
	few := []rune{'a', '=', 0xA4, 0xE9, 0x20AC, 0x1F600, 0xD800}
	for _, charset := range charsets {
		for _, code := range codes {
			over := len("=??Q??=") + len(namesOf()[charset])
			for many := range 3 {
				every(few, many, func(signs []rune) {
					for room := over - 1; room < over+26; room++ {
						checkFits(t, charset, code, signs, room)
					}
				})
			}
		}
	}
}

// Long texts in each room.
func TestEveryRoom(t *testing.T) {
	for _, charset := range charsets {
		for _, code := range codes {
			for room := -1; room < 80; room++ {
				for _, c := range []rune{'a', '=', 0xE9, 0x20AC, 0x1F600} {
					checkFits(t, charset, code, row(c, 100), room)
					checkFits(t, charset, code, append(row('a', 10), row(c, 50)...), room)
				}
				checkFits(t, charset, code, someOf([]rune{'a', 'b', ' ', '='}, 100), room)
				checkFits(t, charset, code, someOf([]rune{'a', 'b', 'c', 'd', ' ', 0xE9, 0x20AC, 0x1F600}, 90), room)
			}
			for _, room := range someRooms {
				checkFits(t, charset, code, []rune("abc"), room)
			}
		}
	}
}

// Of a long text no more is looked at than what an encoded-word may have.
func TestLongTextIsNotGoneThrough(t *testing.T) {
	long := row('a', 10_000_000)
	for range 10_000 {
		if Fits(api.UTF8, codeQ, long, 75) || Prefix(api.UTF8, codeQ, long, 75) != 63 {
			t.Fatal("of a long text another beginning fits")
		}
	}
}

// What follows

// P30.4: lengths never fall, as signs are added.
func TestLengthsNeverFall(t *testing.T) {
	for _, charset := range charsets {
		for _, code := range codes {
			signs, last := []rune(nil), 0
			for _, c := range someOf([]rune{'a', 'b', ' ', '=', 0xE9, 0x20AC, 0x1F600}, 300) {
				if _, ok := octetExpected(charset, c); !ok {
					continue
				}
				signs = append(signs, c)
				many, err := Len(charset, code, signs)
				if err != api.OK || many < last {
					t.Fatalf("Len(%d, %d, %X) = %d, %d, and %d ahead of it", charset, code, signs, many, err, last)
				}
				last = many
			}
			// Of two texts behind each other, too.
			for cut := range signs {
				ahead, _ := Len(charset, code, signs[:cut])
				behind, _ := Len(charset, code, signs[cut:])
				if ahead > last || behind > last {
					t.Fatalf("parts of %X have %d and %d, and it %d", signs, ahead, behind, last)
				}
			}
		}
	}
}
