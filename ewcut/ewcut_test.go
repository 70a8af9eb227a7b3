package ewcut

import (
	"encoding/base64"
	"math"
	"slices"
	"strings"
	"testing"
	"unicode/utf8"

	"sheave/api"
	"sheave/codec"
	"sheave/ewform"
)

// The codes' numbers, written out.
const (
	codeB = 1
	codeQ = 2
)

// charsets are all of them, and noCharsets some numbers that are none, as noCodes are.
var (
	charsets   = []int{api.ASCII, api.Latin1, api.Latin9, api.Win, api.UTF8}
	noCharsets = []int{math.MinInt, -1, 0, 6, 7, 256 + 1, 1<<32 + 1, math.MaxInt}
	codes      = []int{codeB, codeQ}
	noCodes    = []int{math.MinInt, -1, 0, 3, 4, 'B', 'Q', 256 + 1, 1<<32 + 1, math.MaxInt}
	someRooms  = []int{math.MinInt, -1, 0, 1, 15, 16, 18, 19, 20, 21, 24, 28, 40, 74, 75, 76, 200, math.MaxInt}
)

// namesOf are the names that charsets are laid with.
func namesOf() map[int]string {
	return map[int]string{api.ASCII: "us-ascii", api.Latin1: "iso-8859-1", api.Latin9: "iso-8859-15", api.Win: "windows-1252", api.UTF8: "utf-8"}
}

// octetsExpected are a text's in a charset, and whether it has all of the text.
func octetsExpected(charset int, t []rune) ([]byte, bool) {
	var out []byte
	for _, c := range t {
		one, ok := octetExpected(charset, c)
		if !ok {
			return nil, false
		}
		out = append(out, one...)
	}
	return out, true
}

// octetExpected are a sign's, by the library or, of what it knows not, layer 13.
func octetExpected(charset int, c rune) ([]byte, bool) {
	switch {
	case charset == api.UTF8:
		return utf8.AppendRune(nil, c), utf8.ValidRune(c)
	case charset == api.ASCII:
		return []byte{byte(c)}, 0 <= c && c < 0x80
	case charset == api.Latin1:
		return []byte{byte(c)}, 0 <= c && c < 0x100
	}
	one, err := codec.Lay(charset, []rune{c})
	return one, err == api.OK
}

// textExpected is the text of an encoded-word by the words, of which the library codes the one.
func textExpected(code int, s []byte) string {
	if code == codeB {
		return base64.StdEncoding.EncodeToString(s)
	}
	var out strings.Builder
	for _, c := range s {
		switch {
		case c == ' ':
			out.WriteByte('_')
		case strings.IndexByte("!*+-/0123456789ABCDEFGHIJKLMNOPQRSTUVWXYZabcdefghijklmnopqrstuvwxyz", c) >= 0:
			out.WriteByte(c)
		default:
			out.WriteString(string([]byte{'=', "0123456789ABCDEF"[c>>4], "0123456789ABCDEF"[c&15]}))
		}
	}
	return out.String()
}

// wordExpected is a text as one encoded-word, however long, of a charset that has it.
func wordExpected(charset, code int, t []rune) string {
	octets, _ := octetsExpected(charset, t)
	return "=?" + namesOf()[charset] + "?" + []string{codeB: "B", codeQ: "Q"}[code] + "?" + textExpected(code, octets) + "?="
}

// cutExpected are the pieces by the words: each beginning is tried, the longest first.
func cutExpected(charset, code int, t []rune, first int) ([][]rune, api.Errno) {
	if namesOf()[charset] == "" {
		return nil, api.ErrCharset
	}
	if code != codeB && code != codeQ {
		return nil, api.ErrForm
	}
	if _, ok := octetsExpected(charset, t); !ok {
		return nil, api.ErrChar
	}
	var out [][]rune
	for room := min(first, 75); len(t) > 0; room = 75 {
		// No encoded-word has more signs than octets.
		many := min(len(t), 75)
		for many > 0 && len(wordExpected(charset, code, t[:many])) > room {
			many--
		}
		if many == 0 {
			return nil, api.ErrLong
		}
		out = append(out, t[:many])
		t = t[many:]
	}
	return out, api.OK
}

// how is a charset, and a code in it.
type how struct {
	charset, code int
	err           api.Errno
}

// howExpected is that by the words: charsets are tried, the first ones first.
func howExpected(t []rune) how {
	for _, charset := range charsets {
		if _, ok := octetsExpected(charset, t); !ok {
			continue
		}
		if len(wordExpected(charset, codeQ, t)) <= len(wordExpected(charset, codeB, t)) {
			return how{charset: charset, code: codeQ}
		}
		return how{charset: charset, code: codeB}
	}
	return how{err: api.ErrScalar}
}

// wordsExpected are the words by the words.
func wordsExpected(t []rune, first int) ([]string, api.Errno) {
	by := howExpected(t)
	if by.err != api.OK {
		return nil, by.err
	}
	cut, err := cutExpected(by.charset, by.code, t, first)
	if err != api.OK {
		return nil, err
	}
	var out []string
	for _, piece := range cut {
		out = append(out, wordExpected(by.charset, by.code, piece))
	}
	return out, api.OK
}

// stringsOf are lists of octets as strings.
func stringsOf(list [][]byte) []string {
	var out []string
	for _, s := range list {
		out = append(out, string(s))
	}
	return out
}

// checkCut holds a text's pieces against what is expected.
func checkCut(t *testing.T, charset, code int, signs []rune, first int) {
	t.Helper()
	got, err := Cut(charset, code, signs, first)
	want, wantErr := cutExpected(charset, code, signs, first)
	if err != wantErr || !slices.EqualFunc(got, want, slices.Equal[[]rune]) {
		t.Fatalf("Cut(%d, %d, %X, %d) = %X, %d, want %X, %d", charset, code, signs, first, got, err, want, wantErr)
	}
	if err == api.OK && !slices.Equal(slices.Concat(got...), signs) {
		t.Fatalf("Cut(%d, %d, %X, %d) = %X, and these are not all of it", charset, code, signs, first, got)
	}
}

// checkWords holds all that is told of a text against what is expected, and its words against layer 29.
func checkWords(t *testing.T, signs []rune, first int) {
	t.Helper()
	charset, code, err := How(signs)
	if got, want := (how{charset: charset, code: code, err: err}), howExpected(signs); got != want {
		t.Fatalf("How(%X) = %+v, want %+v", signs, got, want)
	}
	words, err := Words(signs, first)
	want, wantErr := wordsExpected(signs, first)
	if err != wantErr || !slices.Equal(stringsOf(words), want) {
		t.Fatalf("Words(%X, %d) = %q, %d, want %q, %d", signs, first, words, err, want, wantErr)
	}
	folded, err := Fold(signs, first)
	if err != wantErr || string(folded) != strings.Join(want, "\r\n ") {
		t.Fatalf("Fold(%X, %d) = %q, %d, want %q, %d", signs, first, folded, err, want, wantErr)
	}
	if many := Count(signs, first); many != len(want) {
		t.Fatalf("Count(%X, %d) = %d, want %d", signs, first, many, len(want))
	}
	if wantErr == api.OK {
		checkRead(t, signs, words, first)
	}
}

// checkRead reads words: P31.4.
func checkRead(t *testing.T, signs []rune, words [][]byte, first int) {
	t.Helper()
	var all []rune
	for i, word := range words {
		if len(word) > 75 || i == 0 && len(word) > first {
			t.Fatalf("%X has the word %q, which is too long for %d", signs, word, first)
		}
		read, ok := ewform.Read(word)
		if !ok || len(read) == 0 || !ewform.Strict(word) {
			t.Fatalf("%X has the word %q, which is read as %X", signs, word, read)
		}
		all = append(all, read...)
	}
	if !slices.Equal(all, signs) {
		t.Fatalf("%X has the words %q, which are read as %X", signs, words, all)
	}
}

// every hands on all lists of these elements of so many of them.
func every[E any](of []E, many int, do func(s []E)) {
	s := make([]E, many)
	var from func(at int)
	from = func(at int) {
		if at == many {
			do(s)
			return
		}
		for _, c := range of {
			s[at] = c
			from(at + 1)
		}
	}
	from(0)
}

// someOf is a row of so many of these signs that has no short period.
func someOf(of []rune, many int) []rune {
	s := make([]rune, many)
	x := uint32(many) + 1
	for i := range s {
		x = x*1664525 + 1013904223
		s[i] = of[int(x>>16)%len(of)]
	}
	return s
}

// row is a sign so many times.
func row(c rune, many int) []rune { return slices.Repeat([]rune{c}, many) }

// kinds are signs of each length, by each code and charset, and numbers that are none.
func kinds() []rune {
	return []rune{'a', ' ', '=', '?', '_', 0, '\r', '\n', 0x7F, 0x80, 0xA4, 0xE9, 0x160, 0x20AC, 0x201C, 0x7FF, 0x800, 0xFFFD, 0xFFFF, 0x1F600, 0x10FFFF, 0xD800, 0xDFFF, 0x110000, -1, math.MinInt32, math.MaxInt32}
}

// P31.1

func TestCutCases(t *testing.T) {
	cases := []struct {
		charset, code int
		t             []rune
		first         int
		lens          []int
		err           api.Errno
	}{
		{api.ASCII, codeQ, []rune("a"), 75, []int{1}, api.OK}, {api.ASCII, codeQ, []rune("abc"), 18, []int{3}, api.OK}, {api.ASCII, codeQ, []rune("abc"), 17, []int{2, 1}, api.OK}, {api.ASCII, codeQ, []rune("abc"), 16, []int{1, 2}, api.OK}, {api.ASCII, codeQ, []rune("abc"), 15, nil, api.ErrLong}, {api.ASCII, codeB, []rune("abc"), 19, []int{3}, api.OK}, {api.ASCII, codeB, []rune("abcd"), 22, []int{3, 1}, api.OK}, {api.ASCII, codeB, []rune("abc"), 18, nil, api.ErrLong},
		// Each one the longest, the first one in its own room, all others in MaxWord.
		{api.ASCII, codeQ, row('a', 60), 75, []int{60}, api.OK}, {api.ASCII, codeQ, row('a', 61), 75, []int{60, 1}, api.OK}, {api.ASCII, codeQ, row('a', 61), 74, []int{59, 2}, api.OK}, {api.ASCII, codeQ, row('a', 130), 16, []int{1, 60, 60, 9}, api.OK}, {api.ASCII, codeB, row('a', 100), 75, []int{45, 45, 10}, api.OK}, {api.ASCII, codeB, row('a', 100), 30, []int{9, 45, 45, 1}, api.OK},
		// A room above MaxWord is MaxWord's.
		{api.ASCII, codeQ, row('a', 61), 76, []int{60, 1}, api.OK}, {api.UTF8, codeQ, row('a', 64), math.MaxInt, []int{63, 1}, api.OK},
		// No sign is parted.
		{api.UTF8, codeQ, row(0x1F600, 6), 75, []int{5, 1}, api.OK}, {api.UTF8, codeB, row(0x1F600, 12), 75, []int{11, 1}, api.OK}, {api.UTF8, codeQ, row(0xE9, 11), 75, []int{10, 1}, api.OK}, {api.UTF8, codeQ, []rune{0x1F600}, 24, []int{1}, api.OK}, {api.UTF8, codeQ, []rune{0x1F600}, 23, nil, api.ErrLong}, {api.UTF8, codeQ, []rune{'a', 0x1F600}, 24, []int{1, 1}, api.OK}, {api.UTF8, codeQ, append(row('a', 52), 0x1F600), 75, []int{52, 1}, api.OK}, {api.UTF8, codeQ, append(row('a', 51), 0x1F600), 75, []int{52}, api.OK},
		// Charsets that would not be picked.
		{api.Latin9, codeB, []rune("abc"), 75, []int{3}, api.OK}, {api.Win, codeQ, row(0x20AC, 20), 75, []int{18, 2}, api.OK}, {api.Latin1, codeB, row('a', 43), 75, []int{42, 1}, api.OK},
		// The empty text has no piece that would have no sign.
		{api.ASCII, codeQ, nil, 75, nil, api.OK}, {api.UTF8, codeB, []rune{}, 0, nil, api.OK}, {api.Win, codeB, nil, math.MinInt, nil, api.OK},
		// Errors, and which one is told first.
		{0, codeQ, []rune("a"), 75, nil, api.ErrCharset}, {6, 0, []rune{-1}, 0, nil, api.ErrCharset}, {0, codeB, nil, 75, nil, api.ErrCharset}, {api.ASCII, 0, []rune("a"), 75, nil, api.ErrForm}, {api.ASCII, 3, []rune{0xE9}, 0, nil, api.ErrForm}, {api.UTF8, 3, nil, 75, nil, api.ErrForm}, {api.ASCII, codeQ, []rune{0xE9}, 75, nil, api.ErrChar}, {api.ASCII, codeB, []rune{'a', 0x80}, 0, nil, api.ErrChar}, {api.UTF8, codeQ, []rune{0xD800}, 75, nil, api.ErrChar}, {api.Latin9, codeB, append(row('a', 200), 0xA4), 75, nil, api.ErrChar}, {api.UTF8, codeB, append(row('a', 200), -1), -1, nil, api.ErrChar}, {api.ASCII, codeQ, []rune("a"), 0, nil, api.ErrLong}, {api.ASCII, codeQ, []rune("a"), -1, nil, api.ErrLong}, {api.UTF8, codeB, row('a', 1000), math.MinInt, nil, api.ErrLong},
	}
	for _, x := range cases {
		got, err := Cut(x.charset, x.code, x.t, x.first)
		var lens []int
		for _, piece := range got {
			lens = append(lens, len(piece))
		}
		if err != x.err || !slices.Equal(lens, x.lens) {
			t.Errorf("Cut(%d, %d, %X, %d) has pieces of %d, %d, want %d, %d", x.charset, x.code, x.t, x.first, lens, err, x.lens, x.err)
		}
		checkCut(t, x.charset, x.code, x.t, x.first)
	}
}

func TestNumbersThatAreNone(t *testing.T) {
	for _, signs := range [][]rune{nil, []rune("a"), {-1}, row('a', 100)} {
		for _, first := range someRooms {
			for _, charset := range noCharsets {
				for _, code := range slices.Concat(codes, noCodes) {
					if got, err := Cut(charset, code, signs, first); len(got) != 0 || err != api.ErrCharset {
						t.Errorf("Cut(%d, %d, %X, %d) = %X, %d", charset, code, signs, first, got, err)
					}
				}
			}
			for _, charset := range charsets {
				for _, code := range noCodes {
					if got, err := Cut(charset, code, signs, first); len(got) != 0 || err != api.ErrForm {
						t.Errorf("Cut(%d, %d, %X, %d) = %X, %d", charset, code, signs, first, got, err)
					}
				}
			}
		}
	}
}

// Short texts of all kinds of signs, by each charset and code.
func TestEveryShortCut(t *testing.T) {
	for _, charset := range append([]int{0, 6}, charsets...) {
		for code := range 4 {
			for many := range 3 {
				every(kinds(), many, func(signs []rune) {
					for _, first := range []int{0, 16, 19, 22, 24, 28, 75} {
						checkCut(t, charset, code, signs, first)
					}
				})
			}
		}
	}
}

// Long texts in each room.
func TestEveryRoomCut(t *testing.T) {
	for _, charset := range charsets {
		for _, code := range codes {
			for first := -1; first < 80; first++ {
				for _, c := range []rune{'a', '=', 0xE9, 0x20AC, 0x1F600} {
					checkCut(t, charset, code, row(c, 70), first)
				}
				checkCut(t, charset, code, someOf([]rune{'a', 'b', ' ', '='}, 130), first)
				checkCut(t, charset, code, someOf([]rune{'a', 'b', 'c', 'd', ' ', 0xE9, 0x20AC, 0x1F600}, 90), first)
			}
			for _, first := range someRooms {
				checkCut(t, charset, code, []rune("abc"), first)
			}
		}
	}
}

// P31.2

func TestHowCases(t *testing.T) {
	cases := []struct {
		t    []rune
		want how
	}{
		{nil, how{api.ASCII, codeQ, api.OK}}, {[]rune("a"), how{api.ASCII, codeQ, api.OK}}, {[]rune("a="), how{api.ASCII, codeQ, api.OK}}, {[]rune("ab\n"), how{api.ASCII, codeB, api.OK}}, {[]rune{0}, how{api.ASCII, codeQ, api.OK}}, {[]rune{0x7F}, how{api.ASCII, codeQ, api.OK}}, {[]rune{0x80}, how{api.Latin1, codeQ, api.OK}}, {[]rune{0xE9}, how{api.Latin1, codeQ, api.OK}}, {[]rune{0xE9, 0xE9}, how{api.Latin1, codeB, api.OK}}, {[]rune{0xA4}, how{api.Latin1, codeQ, api.OK}}, {[]rune{0x20AC}, how{api.Latin9, codeQ, api.OK}}, {[]rune{0xE9, 0x20AC}, how{api.Latin9, codeB, api.OK}}, {[]rune{0xA4, 0x20AC}, how{api.Win, codeB, api.OK}}, {[]rune{'a', 0x201C}, how{api.Win, codeQ, api.OK}}, {[]rune{0x81, 0x20AC}, how{api.Latin9, codeB, api.OK}}, {[]rune{0x81, 0x201C}, how{api.UTF8, codeB, api.OK}}, {[]rune{0x1F600}, how{api.UTF8, codeB, api.OK}}, {append(row('a', 50), 0x1F600), how{api.UTF8, codeQ, api.OK}}, {[]rune{0xFFFD}, how{api.UTF8, codeB, api.OK}}, {[]rune{0x10FFFF}, how{api.UTF8, codeB, api.OK}},
		// Of the whole, wherever it would be cut.
		{append(row('a', 100), 0x1F600), how{api.UTF8, codeQ, api.OK}}, {append(row('a', 60), row(0xE9, 60)...), how{api.Latin1, codeB, api.OK}},
		{[]rune{0xD800}, how{err: api.ErrScalar}}, {[]rune{0xDFFF, 'a'}, how{err: api.ErrScalar}}, {[]rune{-1}, how{err: api.ErrScalar}}, {append(row('a', 100), 0x110000), how{err: api.ErrScalar}},
	}
	for _, x := range cases {
		charset, code, err := How(x.t)
		if got := (how{charset, code, err}); got != x.want {
			t.Errorf("How(%X) = %+v, want %+v", x.t, got, x.want)
		}
		checkWords(t, x.t, 75)
	}
}

func TestWordsCases(t *testing.T) {
	as, aB := strings.Repeat("a", 60), strings.Repeat("YWFh", 14)
	cases := []struct {
		t     []rune
		first int
		words []string
		err   api.Errno
	}{
		{[]rune{0xE9}, 75, []string{"=?iso-8859-1?Q?=E9?="}, api.OK}, {[]rune{0xE9}, 20, []string{"=?iso-8859-1?Q?=E9?="}, api.OK}, {[]rune{0xE9}, 19, nil, api.ErrLong}, {[]rune("a"), 16, []string{"=?us-ascii?Q?a?="}, api.OK}, {[]rune("a b"), 75, []string{"=?us-ascii?Q?a_b?="}, api.OK}, {[]rune{0xE9, 0x20AC}, 75, []string{"=?iso-8859-15?B?6aQ=?="}, api.OK}, {[]rune{'a', 0x201C}, 75, []string{"=?windows-1252?Q?a=93?="}, api.OK}, {[]rune{0x1F600}, 75, []string{"=?utf-8?B?8J+YgA==?="}, api.OK}, {[]rune{0, '\r', '\n'}, 75, []string{"=?us-ascii?B?AA0K?="}, api.OK},
		{row('a', 61), 75, []string{"=?us-ascii?Q?" + as + "?=", "=?us-ascii?Q?a?="}, api.OK}, {row('a', 62), 16, []string{"=?us-ascii?Q?a?=", "=?us-ascii?Q?" + as + "?=", "=?us-ascii?Q?a?="}, api.OK}, {row('a', 61), 1000, []string{"=?us-ascii?Q?" + as + "?=", "=?us-ascii?Q?a?="}, api.OK},
		// The whole's charset and code, though a piece by itself would have others.
		{append(row('a', 60), 0xE9), 75, []string{"=?iso-8859-1?Q?" + as[:58] + "?=", "=?iso-8859-1?Q?aa=E9?="}, api.OK}, {append(row('a', 42), row(0xE9, 42)...), 75, []string{"=?iso-8859-1?B?" + aB + "?=", "=?iso-8859-1?B?" + strings.Repeat("6enp", 14) + "?="}, api.OK}, {append(row(0xE9, 42), row('a', 42)...), 75, []string{"=?iso-8859-1?B?" + strings.Repeat("6enp", 14) + "?=", "=?iso-8859-1?B?" + aB + "?="}, api.OK},
		// No words, and so none that would be too long.
		{nil, 75, nil, api.OK}, {[]rune{}, 0, nil, api.OK}, {nil, math.MinInt, nil, api.OK},
		// Errors, and which one is told first.
		{[]rune{0xD800}, 75, nil, api.ErrScalar}, {[]rune{'a', -1}, 0, nil, api.ErrScalar}, {append(row('a', 200), 0x110000), 15, nil, api.ErrScalar}, {[]rune("a"), 15, nil, api.ErrLong}, {[]rune("a"), 0, nil, api.ErrLong}, {row('a', 100), -1, nil, api.ErrLong}, {[]rune{0x1F600, 'a'}, 19, nil, api.ErrLong}, {[]rune{0x1F600, 'a'}, math.MinInt, nil, api.ErrLong},
	}
	for _, x := range cases {
		words, err := Words(x.t, x.first)
		if err != x.err || !slices.Equal(stringsOf(words), x.words) {
			t.Errorf("Words(%X, %d) = %q, %d, want %q, %d", x.t, x.first, words, err, x.words, x.err)
		}
		folded, err := Fold(x.t, x.first)
		if err != x.err || string(folded) != strings.Join(x.words, "\r\n ") {
			t.Errorf("Fold(%X, %d) = %q, %d", x.t, x.first, folded, err)
		}
		if many := Count(x.t, x.first); many != len(x.words) {
			t.Errorf("Count(%X, %d) = %d, want %d", x.t, x.first, many, len(x.words))
		}
		checkWords(t, x.t, x.first)
	}
}

func TestFoldCases(t *testing.T) {
	as := strings.Repeat("a", 60)
	folded, err := Fold(row('a', 122), 17)
	if want := "=?us-ascii?Q?aa?=\r\n =?us-ascii?Q?" + as + "?=\r\n =?us-ascii?Q?" + as + "?="; string(folded) != want || err != api.OK {
		t.Errorf("Fold = %q, %d, want %q", folded, err, want)
	}
}

// Each sign of the lower ones by itself, and the edges of lengths.
func TestEverySign(t *testing.T) {
	signs := kinds()
	for c := rune(-2); c < 0x900; c++ {
		signs = append(signs, c)
	}
	for c := rune(0x2000); c < 0x2200; c++ {
		signs = append(signs, c)
	}
	signs = append(signs, 0xD7FF, 0xD800, 0xDFFF, 0xE000, 0xFFFF, 0x10000, 0x10FFFF, 0x110000)
	for _, c := range signs {
		for first := 14; first < 26; first++ {
			checkWords(t, []rune{c}, first)
		}
		checkWords(t, []rune{c, 'a', 0xE9}, 75)
	}
}

// Texts of all kinds of signs, up to three.
func TestEveryShortText(t *testing.T) {
	for many := range 4 {
		every(kinds(), many, func(signs []rune) {
			checkWords(t, signs, 75)
			checkWords(t, signs, 21)
		})
	}
}

// Long texts in each room.
func TestEveryRoom(t *testing.T) {
	for first := -1; first < 80; first++ {
		for _, c := range []rune{'a', '=', 0xE9, 0x20AC, 0x201C, 0x1F600} {
			checkWords(t, row(c, 100), first)
			checkWords(t, append(row('a', 50), row(c, 20)...), first)
			checkWords(t, append(row('a', 150), c), first)
		}
		checkWords(t, someOf([]rune{'a', 'b', ' ', '='}, 130), first)
		checkWords(t, someOf([]rune{'a', 'b', ' ', 0xE9}, 130), first)
		checkWords(t, someOf([]rune{'a', 'b', 'c', 'd', ' ', 0xE9, 0x20AC, 0x1F600}, 90), first)
	}
	for _, first := range someRooms {
		for _, signs := range [][]rune{nil, []rune("abc"), {0xE9, 0x20AC}, {'a', 0xD800}, row(0x1F600, 30)} {
			checkWords(t, signs, first)
		}
	}
}

// Rows of all lengths, about each length that pieces end at.
func TestRowsOfLengths(t *testing.T) {
	for _, c := range []rune{'a', '=', 0xE9, 0x20AC, 0x201C, 0x160, 0x800, 0x1F600} {
		for many := range 140 {
			checkWords(t, row(c, many), 75)
			checkWords(t, append(row('a', many), c), 40)
			checkWords(t, append(row(c, 2), row('b', many)...), 60)
		}
	}
}

// A long text is cut in one go.
func TestLongText(t *testing.T) {
	const many = 600_000
	if got := Count(row('a', many), 75); got != many/60 {
		t.Errorf("Count = %d, want %d", got, many/60)
	}
	if got := Count(row(0x1F600, 11*10_000+1), 75); got != 10_001 {
		t.Errorf("Count = %d, want %d", got, 10_001)
	}
}
