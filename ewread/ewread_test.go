package ewread

import (
	"encoding/base64"
	"fmt"
	"regexp"
	"slices"
	"strings"
	"testing"
	"time"
	"unicode/utf8"

	"sheave/api"
	"sheave/codec"
	"sheave/ewcut"
)

// The words of the document as patterns, over octets.
var (
	oneFold   = regexp.MustCompile(`\r\n([ \t])`)
	onePiece  = regexp.MustCompile(`[ \t\r\n]+|[^ \t\r\n]+`)
	anyWord   = regexp.MustCompile("^=\\?([!#$%&'*+\\-.0-9A-Z^_`a-z{|}~]+)\\?([BbQq])\\?([!->@-~]+)\\?=\\z")
	strictB   = regexp.MustCompile(`^(?:[A-Za-z0-9+/]{4})*(?:[A-Za-z0-9+/][AQgw]==|[A-Za-z0-9+/]{2}[AEIMQUYcgkosw048]=)?\z`)
	strictQ   = regexp.MustCompile(`^(?:[!-<>@-~]|=[0-9A-Fa-f]{2})*\z`)
	oneEscape = regexp.MustCompile(`=[0-9A-Fa-f]{2}|_`)
	noDigit   = regexp.MustCompile(`[^A-Za-z0-9+/]`)
)

// answers are what the calls tell of octets.
type answers struct {
	read, raw []rune
	odd       int
	charsets  []int
	lines     [][]rune
}

// told is what they do tell.
func told(s []byte) answers { return answers{Read(s), Raw(s), Odd(s), Charsets(s), Lines(s)} }

// same tells whether two answers are the same, be their lists nil or empty.
func same(a, b answers) bool {
	return slices.Equal(a.read, b.read) && slices.Equal(a.raw, b.raw) && a.odd == b.odd && slices.Equal(a.charsets, b.charsets) && slices.EqualFunc(a.lines, b.lines, slices.Equal[[]rune])
}

// asText is what is told as one text.
func asText(a answers) string {
	return fmt.Sprintf("%+q %+q %d %d %+q", a.read, a.raw, a.odd, a.charsets, a.lines)
}

// expected is what they tell by the words.
func expected(s string) answers {
	a := expectedRaw(oneFold.ReplaceAllString(s, "$1"))
	a.raw = expectedRaw(s).read
	return a
}

// expectedRaw is what they tell by the words, without unfolding.
func expectedRaw(s string) answers {
	var a answers
	pieces := onePiece.FindAllString(s, -1)
	for i, piece := range pieces {
		if isWord(piece) {
			charset, strict, text := wordExpected(piece)
			if !strict {
				a.odd++
			}
			a.charsets = append(a.charsets, charset)
			a.lines = append(a.lines, text)
			a.read = append(a.read, text...)
			continue
		}
		// Between two runs there is a gap.
		if 0 < i && i < len(pieces)-1 && isWord(pieces[i-1]) && isWord(pieces[i+1]) {
			continue
		}
		text := utf8Expected(piece)
		a.lines = append(a.lines, text)
		a.read = append(a.read, text...)
	}
	return a
}

// isWord tells by the words whether octets are an encoded-word.
func isWord(s string) bool { return len(s) <= 75 && anyWord.MatchString(s) }

// wordExpected is an encoded-word's charset, whether it is strict, and what it is read as, by the words.
func wordExpected(s string) (int, bool, []rune) {
	found := anyWord.FindStringSubmatch(s)
	charset, known := charsetExpected(found[1])
	if strings.EqualFold(found[2], "q") {
		return charset, known && strictQ.MatchString(found[3]), signsExpected(charset, unescaped(found[3]))
	}
	return charset, known && strictB.MatchString(found[3]), signsExpected(charset, loose(found[3]))
}

// charsetExpected is a name's charset, and whether it is known.
func charsetExpected(name string) (int, bool) {
	name, _, _ = strings.Cut(name, "*")
	switch strings.ToLower(name) {
	case "us-ascii", "ascii", "ansi_x3.4-1968", "iso646-us":
		return 1, true
	case "iso-8859-1", "iso_8859-1", "latin1", "l1":
		return 2, true
	case "iso-8859-15", "iso_8859-15", "latin-9":
		return 3, true
	case "windows-1252", "cp1252":
		return 4, true
	case "utf-8", "utf8":
		return 5, true
	}
	return 2, false
}

// unescaped are the octets of a text of Q.
func unescaped(s string) string {
	return oneEscape.ReplaceAllStringFunc(s, func(found string) string {
		if found == "_" {
			return " "
		}
		high, low := strings.IndexByte("0123456789abcdef", found[1]|32), strings.IndexByte("0123456789abcdef", found[2]|32)
		return string([]byte{byte(high<<4 | low)})
	})
}

// loose are the octets of a text of B.
func loose(s string) string {
	s, _, _ = strings.Cut(s, "=")
	s = noDigit.ReplaceAllString(s, "")
	if len(s)%4 == 1 {
		s = s[:len(s)-1]
	}
	octets, _ := base64.RawStdEncoding.DecodeString(s)
	return string(octets)
}

// signsExpected is the text of octets of a charset.
func signsExpected(charset int, s string) []rune {
	switch charset {
	case api.UTF8:
		return utf8Expected(s)
	case api.Latin9, api.Win:
		return codec.Read(charset, []byte(s))
	}
	var t []rune
	for _, c := range []byte(s) {
		if charset == api.ASCII && c >= 0x80 {
			t = append(t, 0xFFFD)
		} else {
			t = append(t, rune(c))
		}
	}
	return t
}

// utf8Expected is the text of octets of UTF-8, by the library, of which the maximal subparts are those that it would wait for more behind.
func utf8Expected(s string) []rune {
	var t []rune
	for len(s) > 0 {
		c, many := utf8.DecodeRuneInString(s)
		if c == 0xFFFD && many == 1 {
			for more := 2; more <= min(3, len(s)); more++ {
				if !utf8.FullRuneInString(s[:more]) {
					many = more
				}
			}
		}
		t = append(t, c)
		s = s[many:]
	}
	return t
}

// check holds all that is told of octets against what is expected, and against what follows.
func check(t *testing.T, s []byte) {
	t.Helper()
	got := told(s)
	if want := expected(string(s)); !same(got, want) {
		t.Fatalf("of %q is told %s, want %s", s, asText(got), asText(want))
	}
	for _, text := range [][]rune{got.read, got.raw} {
		if len(text) > len(s) {
			t.Fatalf("%q is read as more signs than octets: %q", s, text)
		}
		for _, c := range text {
			if !utf8.ValidRune(c) {
				t.Fatalf("%q is read as %U", s, text)
			}
		}
	}
	if isUsual(s) && (string(got.read) != string(s) || string(got.raw) != string(s)) {
		t.Fatalf("%q is read as %q and %q", s, got.read, got.raw)
	}
}

// isUsual tells whether octets are read as they are by P33.4.
func isUsual(s []byte) bool {
	return !strings.Contains(string(s), "=?") && !slices.ContainsFunc(s, func(c byte) bool { return c < 32 || c > 126 })
}

// every hands on all lists of these elements of so many of them.
func every[E any](of []E, many int, do func(s []E)) {
	s := make([]E, many)
	var from func(at int)
	from = func(at int) {
		if at == many {
			do(s)
			return
		}
		for _, c := range of {
			s[at] = c
			from(at + 1)
		}
	}
	from(0)
}

// allOctets are those from 0 to 255.
func allOctets() []byte {
	var s []byte
	for c := range 256 {
		s = append(s, byte(c))
	}
	return s
}

// someOf is a row of so many of these elements that has no short period.
func someOf[E any](of []E, many int) []E {
	s := make([]E, many)
	x := uint32(many) + 1
	for i := range s {
		x = x*1664525 + 1013904223
		s[i] = of[int(x>>16)%len(of)]
	}
	return s
}

// parts are what texts of headers are put together of: gaps, words, and what is nearly one.
func parts() []string {
	return []string{" ", "\t", "\r", "\n", "\r\n", "\r\n ", "=?utf-8?Q?=C3?=", "=?x?b??=", "=?x?b?6Q=?=", "=?us-ascii?q?=E9_?=", "a", "=?", "?=", "\xC3\xA9", "\xE2\x82", "\x00"}
}

// P33.1 and P33.2

// all are the text, the same not unfolded, how many words are odd, their charsets, and what pieces are read as.
type all struct {
	s, read, raw string
	odd          int
	charsets     []int
	lines        []string
}

// hold holds what is told of octets against such a row.
func hold(t *testing.T, cases []all) {
	t.Helper()
	for _, x := range cases {
		want := answers{read: []rune(x.read), raw: []rune(x.raw), odd: x.odd, charsets: x.charsets}
		for _, line := range x.lines {
			want.lines = append(want.lines, []rune(line))
		}
		if got := told([]byte(x.s)); !same(got, want) {
			t.Errorf("of %q is told %s, want %s", x.s, asText(got), asText(want))
		}
		check(t, []byte(x.s))
	}
}

func TestPlainCases(t *testing.T) {
	hold(t, []all{
		{"", "", "", 0, nil, nil},
		{"a", "a", "a", 0, nil, []string{"a"}},
		{" a  b\t", " a  b\t", " a  b\t", 0, nil, []string{" ", "a", "  ", "b", "\t"}},
		{" ", " ", " ", 0, nil, []string{" "}},
		// Without a word UTF-8 is read, a maximal subpart as one sign that a gap ends.
		{"\xC3\xA9 \xE2\x82\xAC", "\u00E9 \u20AC", "\u00E9 \u20AC", 0, nil, []string{"\u00E9", " ", "\u20AC"}},
		{"\xE9", "\uFFFD", "\uFFFD", 0, nil, []string{"\uFFFD"}},
		{"\xE2\x82 \xAC", "\uFFFD \uFFFD", "\uFFFD \uFFFD", 0, nil, []string{"\uFFFD", " ", "\uFFFD"}},
		{"\xE2\x82a\xED\xA0\x80", "\uFFFDa\uFFFD\uFFFD\uFFFD", "\uFFFDa\uFFFD\uFFFD\uFFFD", 0, nil, []string{"\uFFFDa\uFFFD\uFFFD\uFFFD"}},
		{"\x00\x7F\v\f", "\x00\x7F\v\f", "\x00\x7F\v\f", 0, nil, []string{"\x00\x7F\v\f"}},
		{"\xC2\xA0\xC2\x85", "\u00A0\u0085", "\u00A0\u0085", 0, nil, []string{"\u00A0\u0085"}},
		// What is nearly a word is none.
		{"(=?utf-8?Q?b?=)", "(=?utf-8?Q?b?=)", "(=?utf-8?Q?b?=)", 0, nil, []string{"(=?utf-8?Q?b?=)"}},
		{"=?utf-8?Q?b?==?utf-8?Q?c?=", "=?utf-8?Q?b?==?utf-8?Q?c?=", "=?utf-8?Q?b?==?utf-8?Q?c?=", 0, nil, []string{"=?utf-8?Q?b?==?utf-8?Q?c?="}},
		{"=?utf-8?Q?b c?=", "=?utf-8?Q?b c?=", "=?utf-8?Q?b c?=", 0, nil, []string{"=?utf-8?Q?b", " ", "c?="}},
		{"=?utf-8?Q??= =?utf-8?R?b?=", "=?utf-8?Q??= =?utf-8?R?b?=", "=?utf-8?Q??= =?utf-8?R?b?=", 0, nil, []string{"=?utf-8?Q??=", " ", "=?utf-8?R?b?="}},
		{"=?utf-8?Q?" + strings.Repeat("b", 64) + "?=", "=?utf-8?Q?" + strings.Repeat("b", 64) + "?=", "=?utf-8?Q?" + strings.Repeat("b", 64) + "?=", 0, nil, []string{"=?utf-8?Q?" + strings.Repeat("b", 64) + "?="}},
		{"=?utf-8?Q?=C3=A9?=\xC3\xA9", "=?utf-8?Q?=C3=A9?=\u00E9", "=?utf-8?Q?=C3=A9?=\u00E9", 0, nil, []string{"=?utf-8?Q?=C3=A9?=\u00E9"}},
	})
}

// Each 13 and 10 that a blank follows is dropped ahead of all else, but in Raw.
func TestFoldCases(t *testing.T) {
	hold(t, []all{
		{"a\r\n b", "a b", "a\r\n b", 0, nil, []string{"a", " ", "b"}},
		{"a\r\n\tb", "a\tb", "a\r\n\tb", 0, nil, []string{"a", "\t", "b"}},
		{"a \r\n b", "a  b", "a \r\n b", 0, nil, []string{"a", "  ", "b"}},
		{"a\r\n \r\n b\r\n ", "a  b ", "a\r\n \r\n b\r\n ", 0, nil, []string{"a", "  ", "b", " "}},
		// What no blank follows stays, as bare ones do.
		{"a\r\nb", "a\r\nb", "a\r\nb", 0, nil, []string{"a", "\r\n", "b"}},
		{"a\r\n", "a\r\n", "a\r\n", 0, nil, []string{"a", "\r\n"}},
		{"a\r b\n c", "a\r b\n c", "a\r b\n c", 0, nil, []string{"a", "\r ", "b", "\n ", "c"}},
		// What is left of ends in a row is not unfolded again.
		{"a\r\n\r\n b", "a\r\n b", "a\r\n\r\n b", 0, nil, []string{"a", "\r\n ", "b"}},
		{"\r\r\n\n b", "\r\r\n\n b", "\r\r\n\n b", 0, nil, []string{"\r\r\n\n ", "b"}},
		{"\r\r\n b", "\r b", "\r\r\n b", 0, nil, []string{"\r ", "b"}},
		// Beside a word, and between words, where gaps are hidden, folded or not.
		{"a\r\n =?utf-8?Q?b?=\r\n\tc", "a b\tc", "a\r\n b\r\n\tc", 0, []int{5}, []string{"a", " ", "b", "\t", "c"}},
		{"=?utf-8?Q?b?=\r\n =?utf-8?Q?c?=", "bc", "bc", 0, []int{5, 5}, []string{"b", "c"}},
		{"=?utf-8?Q?b?=\r\n=?utf-8?Q?c?=", "bc", "bc", 0, []int{5, 5}, []string{"b", "c"}},
		{"=?utf-8?Q?b?=\r\n =?utf-8?Q?c?=\r\n ", "bc ", "bc\r\n ", 0, []int{5, 5}, []string{"b", "c", " "}},
		{"\r\n =?utf-8?Q?b?=\r\n", " b\r\n", "\r\n b\r\n", 0, []int{5}, []string{" ", "b", "\r\n"}},
		// A fold within what would be a word parts it.
		{"=?utf-8?Q?b\r\n c?=", "=?utf-8?Q?b c?=", "=?utf-8?Q?b\r\n c?=", 0, nil, []string{"=?utf-8?Q?b", " ", "c?="}},
	})
}

func TestWordCases(t *testing.T) {
	hold(t, []all{
		{"a =?utf-8?Q?b?=\r\n =?utf-8?Q?c?=", "a bc", "a bc", 0, []int{5, 5}, []string{"a", " ", "b", "c"}},
		{"=?utf-8?Q?=C3=A9?=", "\u00E9", "\u00E9", 0, []int{5}, []string{"\u00E9"}},
		{"=?utf-8?B?w6k=?= =?UTF8*en?b?w6k=?=", "\u00E9\u00E9", "\u00E9\u00E9", 0, []int{5, 5}, []string{"\u00E9", "\u00E9"}},
		{" =?utf-8?Q?b?= c =?utf-8?Q?d?= ", " b c d ", " b c d ", 0, []int{5, 5}, []string{" ", "b", " ", "c", " ", "d", " "}},
		// Each in its own charset, the charsets in order.
		{"=?utf-8?Q?=C3=A9?= =?us-ascii?Q?=E9?= =?latin1?Q?=A4?= =?latin-9?Q?=A4?= =?cp1252?Q?=80=81?=", "\u00E9\uFFFD\u00A4\u20AC\u20AC\uFFFD", "\u00E9\uFFFD\u00A4\u20AC\u20AC\uFFFD", 0, []int{5, 1, 2, 3, 4}, []string{"\u00E9", "\uFFFD", "\u00A4", "\u20AC", "\u20AC\uFFFD"}},
		// A charset that is not known is Latin1, and odd.
		{"=?x?Q?=C3=A9?=", "\u00C3\u00A9", "\u00C3\u00A9", 1, []int{2}, []string{"\u00C3\u00A9"}},
		{"=?x?B?w6k=?= \xC3\xA9", "\u00C3\u00A9 \u00E9", "\u00C3\u00A9 \u00E9", 1, []int{2}, []string{"\u00C3\u00A9", " ", "\u00E9"}},
		// So is a text that is no strict code.
		{"=?utf-8?B?w6k?=", "\u00E9", "\u00E9", 1, []int{5}, []string{"\u00E9"}},
		{"=?utf-8?B?w=6k?=", "", "", 1, []int{5}, []string{""}},
		{"=?utf-8?B?w-6k?=", "\u00E9", "\u00E9", 1, []int{5}, []string{"\u00E9"}},
		{"=?utf-8?Q?=z=3?=", "=z=3", "=z=3", 1, []int{5}, []string{"=z=3"}},
		{"=?x?Q?=z?= =?utf-8?Q?b?= =?utf-8?Q?=?= =?x?Q?b?= c", "=zb=b c", "=zb=b c", 3, []int{2, 5, 5, 2}, []string{"=z", "b", "=", "b", " ", "c"}},
		// What is no text of its charset is strict still.
		{"=?utf-8?Q?=FF?=", "\uFFFD", "\uFFFD", 0, []int{5}, []string{"\uFFFD"}},
		{"=?utf-8?q?=ed=a0=80?=", "\uFFFD\uFFFD\uFFFD", "\uFFFD\uFFFD\uFFFD", 0, []int{5}, []string{"\uFFFD\uFFFD\uFFFD"}},
		// A sign that two words part is none.
		{"=?utf-8?Q?=C3?= =?utf-8?Q?=A9?=", "\uFFFD\uFFFD", "\uFFFD\uFFFD", 0, []int{5, 5}, []string{"\uFFFD", "\uFFFD"}},
		// A word that is read as nothing is a piece that is shown, too.
		{"=?utf-8?B?=?=", "", "", 1, []int{5}, []string{""}},
		{"a =?utf-8?B?=?= b", "a  b", "a  b", 1, []int{5}, []string{"a", " ", "", " ", "b"}},
		{"=?utf-8?B?=?= =?x?B?-?=\t=?utf-8?Q?b?=", "b", "b", 2, []int{5, 2, 5}, []string{"", "", "b"}},
		// What words are read as is neither unfolded nor read again.
		{"=?utf-8?Q?a_b=0D=0A_c?=", "a b\r\n c", "a b\r\n c", 0, []int{5}, []string{"a b\r\n c"}},
		{"=?utf-8?Q?=0D?= =?utf-8?Q?=0A?= d", "\r\n d", "\r\n d", 0, []int{5, 5}, []string{"\r", "\n", " ", "d"}},
		{"=?utf-8?Q?=3D=3Futf-8=3FQ=3Fb=3F=3D?=", "=?utf-8?Q?b?=", "=?utf-8?Q?b?=", 0, []int{5}, []string{"=?utf-8?Q?b?="}},
		// What is beside it hides no gap.
		{"=?utf-8?Q?b?= =?utf-8?Q?c?=.", "b =?utf-8?Q?c?=.", "b =?utf-8?Q?c?=.", 0, []int{5}, []string{"b", " ", "=?utf-8?Q?c?=."}},
		{"=?utf-8?Q?" + strings.Repeat("b", 63) + "?= =?utf-8?Q?" + strings.Repeat("c", 64) + "?=", strings.Repeat("b", 63) + " =?utf-8?Q?" + strings.Repeat("c", 64) + "?=", strings.Repeat("b", 63) + " =?utf-8?Q?" + strings.Repeat("c", 64) + "?=", 0, []int{5}, []string{strings.Repeat("b", 63), " ", "=?utf-8?Q?" + strings.Repeat("c", 64) + "?="}},
	})
}

// What layer 31 lays is read back, unfolded or not, and none of it is odd.
func TestLaidIsRead(t *testing.T) {
	signs := []rune{'a', ' ', '=', '?', '_', 9, 0xA4, 0xE9, 0xFF, 0x153, 0x20AC, 0x3B1, 0xFFFD, 0x1F600, 0x10FFFF}
	for from := range len(signs) {
		for many := range 200 {
			text := someOf(signs[:from+1], many)
			laid, err := ewcut.Fold(text, 60)
			if err != api.OK {
				t.Fatalf("%q is not laid: %d", text, err)
			}
			charset, _, _ := ewcut.How(text)
			count := ewcut.Count(text, 60)
			got := told(laid)
			if !slices.Equal(got.read, text) || !slices.Equal(got.raw, text) || got.odd != 0 || !slices.Equal(got.charsets, slices.Repeat([]int{charset}, count)) || len(got.lines) != count {
				t.Fatalf("%q is laid as %q, of which is told %s", text, laid, asText(got))
			}
		}
	}
}

// P33.3, with all the rest: check asks all of it of whatever it is handed.

func TestEveryTwoOctets(t *testing.T) {
	for many := range 3 {
		every(allOctets(), many, func(s []byte) { check(t, s) })
	}
}

// Each octet in a word, in a gap between words, and beside a word.
func TestEachOctetAtEachPlace(t *testing.T) {
	for _, s := range []string{"a =?utf-8?Q?=C3?=\r\n =?x?b?Zg?=", "=?l1?b?6Q==?=\r\n\xC3\xA9"} {
		for at := range len(s) + 1 {
			for _, c := range allOctets() {
				check(t, []byte(s[:at]+string([]byte{c})+s[at:]))
				check(t, []byte(s[:at]+string([]byte{c})+s[min(at+1, len(s)):]))
			}
			check(t, []byte(s[:at]))
			check(t, []byte(s[at:]))
		}
	}
}

// Each octet that a word may have in its text by an escape, in each charset and in one that is none.
func TestEachOctetOfEachCharset(t *testing.T) {
	for _, name := range []string{"us-ascii", "ISO-8859-1", "iso-8859-15", "Windows-1252", "utf-8", "x", "*en", "utf-7"} {
		every(allOctets(), 1, func(s []byte) {
			digits := string([]byte{"0123456789ABCDEF"[s[0]>>4], "0123456789abcdef"[s[0]&15]})
			check(t, []byte("=?"+name+"?Q?="+digits+"?="))
			check(t, []byte("=?"+name+"?B?"+base64.StdEncoding.EncodeToString(s)+"?= =?"+name+"?b?"+base64.RawStdEncoding.EncodeToString(s)+"?="))
		})
	}
}

func TestEveryShortInput(t *testing.T) {
	for many := range 7 {
		every([]byte(" \r\na=?"), many, func(s []byte) { check(t, s) })
	}
	for many := range 5 {
		every([]byte(" \t\r\n\x00\x7F\x80\x9F\xA0\xC3\xE0\xED\xF0\xF4\xFF"), many, func(s []byte) { check(t, s) })
	}
	for many := range 4 {
		every(parts(), many, func(texts []string) { check(t, []byte(strings.Join(texts, ""))) })
	}
	words := []string{"=?utf-8?Q?=C3?=", "=?x?b?6Q=?=", " ", "\r\n ", "\r\n", "a"}
	for many := range 7 {
		every(words, many, func(texts []string) { check(t, []byte(strings.Join(texts, ""))) })
	}
}

func TestRows(t *testing.T) {
	for many := range 400 {
		check(t, []byte(strings.Join(someOf(parts(), many), "")))
		check(t, someOf([]byte(" \r\na"), many))
		check(t, someOf(allOctets(), many))
		check(t, []byte(strings.Join(someOf([]string{"=?x?Q?b?=", " ", "=?utf-8?Q?b?=\r\n ", "a "}, many), "")))
		check(t, []byte("=?x?Q?"+strings.Repeat("b", many)+"?= =?x?B?"+strings.Repeat("b", many)+"?="))
	}
}

// P33.4

func TestUsualIsReadAsItIs(t *testing.T) {
	var usual []byte
	for c := byte(32); c <= 126; c++ {
		usual = append(usual, c)
	}
	for many := range 3 {
		every(usual, many, func(s []byte) {
			if string(s) != "=?" && (string(Read(s)) != string(s) || string(Raw(s)) != string(s) || Odd(s) != 0 || len(Charsets(s)) != 0) {
				t.Fatalf("%q is read as %q", s, Read(s))
			}
		})
	}
	for many := range 300 {
		for _, of := range []string{string(usual), " a", " =", " ?=", "= utf-8Qb"} {
			s := strings.ReplaceAll(string(someOf([]byte(of), many)), "=?", "=")
			// What is left may have new ones.
			s = strings.ReplaceAll(s, "=?", "a")
			if got := Read([]byte(s)); string(got) != s {
				t.Fatalf("%q is read as %q", s, got)
			}
			check(t, []byte(s))
		}
	}
}

func TestLongTexts(t *testing.T) {
	begin := time.Now()
	cases := []struct {
		s          string
		words, odd int
		signs, raw int
	}{
		{strings.Repeat("=?x?Q?b?= ", 30000), 30000, 30000, 30001, 30001},
		{strings.Repeat("=?utf-8?Q?=C3=A9?=\r\n ", 30000), 30000, 0, 30001, 30003},
		{strings.Repeat(" ", 300000), 0, 0, 300000, 300000},
		{strings.Repeat("\r\n ", 300000), 0, 0, 300000, 900000},
		{strings.Repeat("a ", 150000), 0, 0, 300000, 300000},
		{strings.Repeat("\xE2\x82", 150000), 0, 0, 150000, 150000},
		{strings.Repeat("=?", 150000), 0, 0, 300000, 300000},
		{"=?x?Q?" + strings.Repeat("b", 300000) + "?=", 0, 0, 300008, 300008},
	}
	for _, x := range cases {
		a := told([]byte(x.s))
		if len(a.read) != x.signs || len(a.raw) != x.raw || a.odd != x.odd || len(a.charsets) != x.words || !slices.Equal(slices.Concat(a.lines...), a.read) {
			t.Errorf("of %.30q are told %d and %d signs, %d words, %d odd", x.s, len(a.read), len(a.raw), len(a.charsets), a.odd)
		}
	}
	if took := time.Since(begin); took > 20*time.Second {
		t.Errorf("long texts took %v", took)
	}
}
