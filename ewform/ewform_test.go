package ewform

import (
	"encoding/base64"
	"math"
	"mime"
	"regexp"
	"slices"
	"strings"
	"testing"
	"unicode/utf8"

	"sheave/api"
	"sheave/codec"
)

// The octets of names, and of texts, written out.
const (
	tokens = "!#$%&'*+-.0123456789ABCDEFGHIJKLMNOPQRSTUVWXYZ^_`abcdefghijklmnopqrstuvwxyz{|}~"
	texts  = "!\"#$%&'()*+,-./0123456789:;<=>@ABCDEFGHIJKLMNOPQRSTUVWXYZ[\\]^_`abcdefghijklmnopqrstuvwxyz{|}~"
	digits = "ABCDEFGHIJKLMNOPQRSTUVWXYZabcdefghijklmnopqrstuvwxyz0123456789+/"
)

// The words of the document as patterns, over octets.
var (
	anyWord   = regexp.MustCompile("^=\\?([!#$%&'*+\\-.0-9A-Z^_`a-z{|}~]+)\\?([BbQq])\\?([!->@-~]+)\\?=\\z")
	strictB   = regexp.MustCompile(`^(?:[A-Za-z0-9+/]{4})*(?:[A-Za-z0-9+/][AQgw]==|[A-Za-z0-9+/]{2}[AEIMQUYcgkosw048]=)?\z`)
	strictQ   = regexp.MustCompile(`^(?:[!-<>@-~]|=[0-9A-Fa-f]{2})*\z`)
	oneEscape = regexp.MustCompile(`=[0-9A-Fa-f]{2}|_`)
)

// charsets are all of them, and noCharsets some numbers that are none, as noCodes are.
var (
	charsets   = []int{api.ASCII, api.Latin1, api.Latin9, api.Win, api.UTF8}
	noCharsets = []int{math.MinInt, -1, 0, 6, 7, 256 + 1, 1<<32 + 1, math.MaxInt}
	noCodes    = []int{math.MinInt, -1, 0, 3, 4, 'B', 'Q', 256 + 1, 1<<32 + 1, math.MaxInt}
)

// namesOf are the charsets' names.
func namesOf() map[int][]string {
	return map[int][]string{
		api.ASCII:  {"us-ascii", "ascii", "ansi_x3.4-1968", "iso646-us"},
		api.Latin1: {"iso-8859-1", "iso_8859-1", "latin1", "l1"},
		api.Latin9: {"iso-8859-15", "iso_8859-15", "latin-9"},
		api.Win:    {"windows-1252", "cp1252"},
		api.UTF8:   {"utf-8", "utf8"},
	}
}

// charsetExpected is a name's charset by the words, and whether it is known.
func charsetExpected(name string) (int, bool) {
	name, _, _ = strings.Cut(name, "*")
	for charset, names := range namesOf() {
		for _, other := range names {
			if strings.EqualFold(name, other) && len(name) == len(other) {
				return charset, true
			}
		}
	}
	return api.Latin1, false
}

// octetsExpected are those that a text is read as, by the words.
func octetsExpected(code int, text string) []byte {
	if code == Q {
		return []byte(oneEscape.ReplaceAllStringFunc(text, func(found string) string {
			if found == "_" {
				return " "
			}
			high, low := strings.IndexByte("0123456789abcdef", found[1]|32), strings.IndexByte("0123456789abcdef", found[2]|32)
			return string([]byte{byte(high<<4 | low)})
		}))
	}
	text, _, _ = strings.Cut(text, "=")
	text = strings.Map(func(c rune) rune {
		if strings.ContainsRune(digits, c) {
			return c
		}
		return -1
	}, text)
	if len(text)%4 == 1 {
		text = text[:len(text)-1]
	}
	s, _ := base64.RawStdEncoding.DecodeString(text)
	return s
}

// answers are what the calls tell of octets.
type answers struct {
	err          api.Errno
	name, text   string
	code         int
	strict       bool
	charset      int
	signs        string
	isRead, isIt bool
}

// expected is what they tell by the words.
func expected(s string) answers {
	found := anyWord.FindStringSubmatch(s)
	if found == nil {
		return answers{err: api.ErrForm}
	}
	if len(s) > 75 {
		return answers{err: api.ErrLong}
	}
	a := answers{name: found[1], text: found[3], code: B, isIt: true, isRead: true}
	pattern := strictB
	if strings.EqualFold(found[2], "q") {
		a.code, pattern = Q, strictQ
	}
	charset, known := charsetExpected(a.name)
	a.charset, a.strict = charset, known && pattern.MatchString(a.text)
	a.signs = string(codec.Read(charset, octetsExpected(a.code, a.text)))
	return a
}

// told is what they do tell.
func told(s []byte) answers {
	word, err := Parse(s)
	a := answers{err: err, name: string(word.Name), text: string(word.Text), code: word.Code, strict: Strict(s), charset: Charset(s), isIt: Is(s)}
	signs, ok := Read(s)
	a.signs, a.isRead = string(signs), ok
	return a
}

// check holds what is told of octets against what is expected, and against the chapter's last promise.
func check(t *testing.T, s []byte) {
	t.Helper()
	if got, want := told(s), expected(string(s)); got != want {
		t.Fatalf("of %q is told %+v, want %+v", s, got, want)
	}
	word, err := Parse(s)
	if err != api.OK && (word.Name != nil || word.Text != nil) {
		t.Fatalf("Parse(%q) = %v beside %d", s, word, err)
	}
	signs, ok := Read(s)
	if len(signs) > len(s) || !ok && signs != nil {
		t.Fatalf("Read(%q) = %X, %t", s, signs, ok)
	}
	for _, c := range signs {
		if !utf8.ValidRune(c) {
			t.Fatalf("Read(%q) has %X", s, c)
		}
	}
}

// laidExpected is Lay by the words, with the text that the library codes.
func laidExpected(charset, code int, s string) (string, api.Errno) {
	names := namesOf()[charset]
	if names == nil {
		return "", api.ErrCharset
	}
	if code != 1 && code != 2 || s == "" {
		return "", api.ErrForm
	}
	letter, text := "B", base64.StdEncoding.EncodeToString([]byte(s))
	if code == 2 {
		letter, text = "Q", qExpected(s)
	}
	laid := "=?" + names[0] + "?" + letter + "?" + text + "?="
	if len(laid) > 75 {
		return "", api.ErrLong
	}
	return laid, api.OK
}

// qExpected is the Q of octets by the words.
func qExpected(s string) string {
	var out strings.Builder
	for _, c := range []byte(s) {
		switch {
		case c == ' ':
			out.WriteByte('_')
		case strings.IndexByte("!*+-/0123456789ABCDEFGHIJKLMNOPQRSTUVWXYZabcdefghijklmnopqrstuvwxyz", c) >= 0:
			out.WriteByte(c)
		default:
			out.WriteString(string([]byte{'=', "0123456789ABCDEF"[c>>4], "0123456789ABCDEF"[c&15]}))
		}
	}
	return out.String()
}

// checkLaid holds what is laid of octets against what is expected, and against the way back: P29.2 and P29.3.
func checkLaid(t *testing.T, charset, code int, s []byte) {
	t.Helper()
	laid, err := Lay(charset, code, s)
	want, wantErr := laidExpected(charset, code, string(s))
	if string(laid) != want || err != wantErr || err != api.OK && laid != nil {
		t.Fatalf("Lay(%d, %d, %q) = %q, %d, want %q, %d", charset, code, s, laid, err, want, wantErr)
	}
	if err != api.OK {
		return
	}
	signs, ok := Read(laid)
	if !ok || !slices.Equal(signs, codec.Read(charset, s)) || !Strict(laid) || !Is(laid) || Charset(laid) != charset {
		t.Fatalf("%q is laid in %d as %q, and read as %X, %t", s, charset, laid, signs, ok)
	}
	word, err := Parse(laid)
	if err != api.OK || word.Code != code || len(laid) != Over(charset)+len(word.Text) {
		t.Fatalf("%q is laid by %d in %d as %q, of which the parts are %v, %d", s, code, charset, laid, word, err)
	}
	check(t, laid)
}

// every hands on all lists of these elements of so many of them.
func every[E any](of []E, many int, do func(s []E)) {
	s := make([]E, many)
	var from func(at int)
	from = func(at int) {
		if at == many {
			do(s)
			return
		}
		for _, c := range of {
			s[at] = c
			from(at + 1)
		}
	}
	from(0)
}

// allOctets are those from 0 to 255.
func allOctets() []byte {
	var s []byte
	for c := range 256 {
		s = append(s, byte(c))
	}
	return s
}

// someOf is a row of so many of these octets that has no short period.
func someOf(of []byte, many int) []byte {
	s := make([]byte, many)
	x := uint32(many) + 1
	for i := range s {
		x = x*1664525 + 1013904223
		s[i] = of[int(x>>16)%len(of)]
	}
	return s
}

// P29.1

func TestParseCases(t *testing.T) {
	cases := []struct {
		s, name string
		code    int
		text    string
		err     api.Errno
	}{
		{"=?utf-8?Q?=C3=A9?=", "utf-8", Q, "=C3=A9", api.OK}, {"=?utf-8?q?=c3?=", "utf-8", Q, "=c3", api.OK}, {"=?ISO-8859-1?B?6Q==?=", "ISO-8859-1", B, "6Q==", api.OK}, {"=?x?b?Zg?=", "x", B, "Zg", api.OK}, {"=?utf-8*en?Q?a?=", "utf-8*en", Q, "a", api.OK}, {"=?*?Q?a?=", "*", Q, "a", api.OK}, {"=?Q?Q?Q?=", "Q", Q, "Q", api.OK}, {"=?" + tokens[:40] + "?Q?a?=", tokens[:40], Q, "a", api.OK}, {"=?x?Q?" + texts[:60] + "?=", "x", Q, texts[:60], api.OK},
		// Texts that are no right codes, and such that look like the ends.
		{"=?x?Q?=?=", "x", Q, "=", api.OK}, {"=?x?B?=?=", "x", B, "=", api.OK}, {"=?x?B?!?=", "x", B, "!", api.OK}, {"=?x?Q?==?=", "x", Q, "==", api.OK}, {"=?x?Q?=z?=", "x", Q, "=z", api.OK},
		// Parts that are missing.
		{"", "", 0, "", api.ErrForm}, {"=", "", 0, "", api.ErrForm}, {"=?", "", 0, "", api.ErrForm}, {"?=", "", 0, "", api.ErrForm}, {"=?=", "", 0, "", api.ErrForm}, {"=??=", "", 0, "", api.ErrForm}, {"=???=", "", 0, "", api.ErrForm}, {"=????=", "", 0, "", api.ErrForm}, {"=??Q?a?=", "", 0, "", api.ErrForm}, {"=?x??a?=", "", 0, "", api.ErrForm}, {"=?x?Q??=", "", 0, "", api.ErrForm}, {"=?x?Q?=", "", 0, "", api.ErrForm}, {"=?x?Q=", "", 0, "", api.ErrForm}, {"=?x?=", "", 0, "", api.ErrForm}, {"=?x?a?=", "", 0, "", api.ErrForm}, {"=?x?Q?a", "", 0, "", api.ErrForm}, {"=?x?Q?a?", "", 0, "", api.ErrForm}, {"=?x?Q?a=", "", 0, "", api.ErrForm}, {"x?Q?a?=", "", 0, "", api.ErrForm}, {"?x?Q?a?=", "", 0, "", api.ErrForm}, {"=x?Q?a?=", "", 0, "", api.ErrForm},
		// Parts that are too many, or none.
		{"=?x?Q?a?b?=", "", 0, "", api.ErrForm}, {"=?x?Q?a??=", "", 0, "", api.ErrForm}, {"=?x?Q??a?=", "", 0, "", api.ErrForm}, {"=?x?y?Q?a?=", "", 0, "", api.ErrForm}, {"=?x?R?a?=", "", 0, "", api.ErrForm}, {"=?x?QQ?a?=", "", 0, "", api.ErrForm}, {"=?x?BQ?a?=", "", 0, "", api.ErrForm}, {"=?x? Q?a?=", "", 0, "", api.ErrForm}, {"=?x?1?a?=", "", 0, "", api.ErrForm}, {"=?x?2?a?=", "", 0, "", api.ErrForm}, {"=?x?\x02?a?=", "", 0, "", api.ErrForm}, {"=?utf 8?Q?a?=", "", 0, "", api.ErrForm}, {"=? utf-8?Q?a?=", "", 0, "", api.ErrForm}, {"=?utf-8 ?Q?a?=", "", 0, "", api.ErrForm}, {"=?a/b?Q?a?=", "", 0, "", api.ErrForm}, {`=?"a"?Q?a?=`, "", 0, "", api.ErrForm}, {"=?x=?Q?a?=", "", 0, "", api.ErrForm}, {"=?x?Q?a b?=", "", 0, "", api.ErrForm}, {"=?x?Q?a\tb?=", "", 0, "", api.ErrForm}, {"=?x?Q?a\r\n b?=", "", 0, "", api.ErrForm}, {"=?x?Q?\xC3\xA9?=", "", 0, "", api.ErrForm}, {"=?x?Q?\x00?=", "", 0, "", api.ErrForm}, {"=?x?Q?a\x7F?=", "", 0, "", api.ErrForm}, {"=?\xE9?Q?a?=", "", 0, "", api.ErrForm},
		// What stands about it.
		{" =?x?Q?a?=", "", 0, "", api.ErrForm}, {"=?x?Q?a?= ", "", 0, "", api.ErrForm}, {"=?x?Q?a?=\n", "", 0, "", api.ErrForm}, {"(=?x?Q?a?=)", "", 0, "", api.ErrForm}, {"=?x?Q?a?==?x?Q?b?=", "", 0, "", api.ErrForm}, {"=?x?Q?a?=b", "", 0, "", api.ErrForm}, {"==?x?Q?a?=", "", 0, "", api.ErrForm},
	}
	for _, x := range cases {
		got, err := Parse([]byte(x.s))
		if string(got.Name) != x.name || got.Code != x.code || string(got.Text) != x.text || err != x.err {
			t.Errorf("Parse(%q) = %q, %d, %q, %d, want %q, %d, %q, %d", x.s, got.Name, got.Code, got.Text, err, x.name, x.code, x.text, x.err)
		}
		if Is([]byte(x.s)) != (x.err == api.OK) {
			t.Errorf("Is(%q) = %t", x.s, x.err != api.OK)
		}
		check(t, []byte(x.s))
	}
}

func TestConstants(t *testing.T) {
	if B != 1 || Q != 2 {
		t.Errorf("the codes are %d, %d", B, Q)
	}
}

// At most 75 octets, wherever they stand; what has more is asked for its form ahead of that.
func TestLengths(t *testing.T) {
	for many := 1; many < 200; many++ {
		long := strings.Repeat("a", many)
		want := api.OK
		if many+8 > 75 {
			want = api.ErrLong
		}
		for _, s := range []string{"=?x?Q?" + long + "?=", "=?" + long + "?Q?a?=", "=?x?B?" + long + "?=", "=?" + long + "?b?=?="} {
			if _, err := Parse([]byte(s)); err != want || Is([]byte(s)) != (want == api.OK) {
				t.Errorf("Parse of %d octets tells %d, want %d", len(s), err, want)
			}
			check(t, []byte(s))
			for _, spoilt := range []string{s[1:], s[:len(s)-1], s + "a", strings.Replace(s, "a", "\x80", 1), strings.Replace(s, "a", "?", 1), strings.Replace(s, "a", " ", 1)} {
				check(t, []byte(spoilt))
			}
		}
		both := "=?" + long + "?Q?" + long + "?="
		check(t, []byte(both))
	}
	for _, s := range []string{strings.Repeat("=?x?Q?a?=", 1000), strings.Repeat("?", 100000), "=?" + strings.Repeat("x", 100000) + "?R?a?=", "=?" + strings.Repeat("x", 100000) + "?Q?a?=", "=?x?Q?" + strings.Repeat("a", 100000) + "\n?="} {
		check(t, []byte(s))
	}
}

// Which octets are of names, of texts, and codes.
func TestEveryOctetOfParts(t *testing.T) {
	for _, c := range allOctets() {
		isToken, isText := strings.IndexByte(tokens, c) >= 0, strings.IndexByte(texts, c) >= 0
		isLetter := c == 'B' || c == 'b' || c == 'Q' || c == 'q'
		for _, part := range []string{string([]byte{c}), string([]byte{c, 'a'}), string([]byte{'a', c}), string([]byte{'a', c, 'a'})} {
			if s := "=?" + part + "?Q?a?="; Is([]byte(s)) != isToken {
				t.Errorf("Is(%q) = %t", s, !isToken)
			}
			for _, code := range []string{"B", "q"} {
				if s := "=?x?" + code + "?" + part + "?="; Is([]byte(s)) != isText {
					t.Errorf("Is(%q) = %t", s, !isText)
				}
			}
			if s := "=?x?" + part + "?a?="; Is([]byte(s)) != (isLetter && len(part) == 1) {
				t.Errorf("Is(%q) = %t", s, Is([]byte(s)))
			}
		}
	}
}

func TestStrictCases(t *testing.T) {
	cases := []struct {
		s    string
		want bool
	}{
		{"=?utf-8?Q?=C3=A9?=", true}, {"=?utf-8?q?=c3=a9?=", true}, {"=?UTF-8?Q?_?=", true}, {"=?utf8?Q?a?=", true}, {"=?l1?Q?a?=", true}, {"=?utf-8*en?Q?a?=", true}, {"=?utf-8*?Q?a?=", true}, {"=?utf-8?Q?(a,b)?=", true}, {"=?utf-8?Q?=41?=", true}, {"=?us-ascii?Q?=FF?=", true}, {"=?utf-8?Q?=FF?=", true},
		{"=?utf-8?B?Zg==?=", true}, {"=?cp1252?b?Zm8=?=", true}, {"=?latin-9?B?Zm9v?=", true}, {"=?ascii?B?/+8=?=", true}, {"=?utf-8?B?////?=", true},
		// The text is no right one.
		{"=?utf-8?Q?=?=", false}, {"=?utf-8?Q?=z?=", false}, {"=?utf-8?Q?=4?=", false}, {"=?utf-8?Q?==41?=", false}, {"=?utf-8?Q?a=4g?=", false}, {"=?utf-8?B?Zh==?=", false}, {"=?utf-8?B?Zg?=", false}, {"=?utf-8?B?Zg=?=", false}, {"=?utf-8?B?Zm9v=?=", false}, {"=?utf-8?B?Zm9=?=", false}, {"=?utf-8?B?=?=", false}, {"=?utf-8?B?====?=", false}, {"=?utf-8?B?Zg==Zg==?=", false}, {"=?utf-8?B?Zm_v?=", false}, {"=?utf-8?B?Zm-v?=", false}, {"=?utf-8?B?!!!!?=", false},
		// What is right of the other code alone.
		{"=?utf-8?Q?Zg==?=", false}, {"=?utf-8?B?=C3=A9?=", false}, {"=?utf-8?B?a_b=?=", false},
		// The charset is not known.
		{"=?x?Q?a?=", false}, {"=?x?B?Zg==?=", false}, {"=?utf-9?Q?a?=", false}, {"=?utf-8x?Q?a?=", false}, {"=?utf-?Q?a?=", false}, {"=?*?Q?a?=", false}, {"=?*utf-8?Q?a?=", false}, {"=?base64?B?Zg==?=", false}, {"=?'utf-8'?Q?a?=", false}, {"=?utf_8?Q?a?=", false},
		// It is none.
		{"", false}, {"utf-8", false}, {"=?utf-8?Q??=", false}, {"=?utf-8?B??=", false}, {"=?utf-8?Q?a b?=", false}, {"=?utf-8?Q?a?= ", false}, {"=?utf-8?Q?" + strings.Repeat("a", 63) + "?=", true}, {"=?utf-8?Q?" + strings.Repeat("a", 64) + "?=", false}, {"=?utf-8?B?" + strings.Repeat("Zm9v", 15) + "?=", true}, {"=?utf-8?B?" + strings.Repeat("Zm9v", 16) + "?=", false},
	}
	for _, x := range cases {
		if got := Strict([]byte(x.s)); got != x.want {
			t.Errorf("Strict(%q) = %t", x.s, got)
		}
		check(t, []byte(x.s))
	}
}

func TestReadCases(t *testing.T) {
	cases := []struct {
		s       string
		charset int
		want    []rune
	}{
		{"=?utf-8?Q?=C3=A9?=", api.UTF8, []rune{0xE9}}, {"=?utf-8?B?w6k=?=", api.UTF8, []rune{0xE9}}, {"=?utf-8?q?=c3=a9?=", api.UTF8, []rune{0xE9}}, {"=?UTF8*en?b?w6k=?=", api.UTF8, []rune{0xE9}}, {"=?utf-8?Q?=F0=9F=98=80?=", api.UTF8, []rune{0x1F600}}, {"=?utf-8?Q?a_b=20c=5Fd?=", api.UTF8, []rune{'a', ' ', 'b', ' ', 'c', '_', 'd'}}, {"=?utf-8?Q?=00=0D=0A?=", api.UTF8, []rune{0, 13, 10}}, {"=?utf-8?Q?=3F=3D?=", api.UTF8, []rune{'?', '='}}, {"=?utf-8?B?AA==?=", api.UTF8, []rune{0}},
		// Each charset.
		{"=?us-ascii?Q?a=7F=80?=", api.ASCII, []rune{'a', 0x7F, 0xFFFD}}, {"=?iso-8859-1?Q?=A4=E9=80?=", api.Latin1, []rune{0xA4, 0xE9, 0x80}}, {"=?iso-8859-15?Q?=A4=E9=80?=", api.Latin9, []rune{0x20AC, 0xE9, 0x80}}, {"=?windows-1252?Q?=A4=E9=80=81?=", api.Win, []rune{0xA4, 0xE9, 0x20AC, 0xFFFD}}, {"=?cp1252?B?gIE=?=", api.Win, []rune{0x20AC, 0xFFFD}},
		// What is not known is read as Latin1.
		{"=?x?Q?=C3=A9?=", api.Latin1, []rune{0xC3, 0xA9}}, {"=?x?B?gIE=?=", api.Latin1, []rune{0x80, 0x81}}, {"=?*en?Q?=FF?=", api.Latin1, []rune{0xFF}}, {"=?utf-7?Q?+AOk-?=", api.Latin1, []rune("+AOk-")},
		// What is not strict.
		{"=?utf-8?B?w6k?=", api.UTF8, []rune{0xE9}}, {"=?utf-8?B?w6l=?=", api.UTF8, []rune{0xE9}}, {"=?utf-8?B?w!6-k_?=", api.UTF8, []rune{0xE9}}, {"=?utf-8?B?w6k=YQ==?=", api.UTF8, []rune{0xE9}}, {"=?utf-8?B?Z?=", api.UTF8, nil}, {"=?utf-8?B?=?=", api.UTF8, nil}, {"=?utf-8?B?!?=", api.UTF8, nil}, {"=?x?B?=Zg==?=", api.Latin1, nil}, {"=?utf-8?Q?=?=", api.UTF8, []rune{'='}}, {"=?utf-8?Q?=z=4?=", api.UTF8, []rune{'=', 'z', '=', '4'}}, {"=?utf-8?Q?=C3=?=", api.UTF8, []rune{0xFFFD, '='}},
		// What is no text of the charset.
		{"=?utf-8?Q?=E9?=", api.UTF8, []rune{0xFFFD}}, {"=?utf-8?Q?=E2=82a?=", api.UTF8, []rune{0xFFFD, 'a'}}, {"=?utf-8?B?/w==?=", api.UTF8, []rune{0xFFFD}}, {"=?utf-8?Q?=ED=A0=80?=", api.UTF8, []rune{0xFFFD, 0xFFFD, 0xFFFD}},
	}
	for _, x := range cases {
		if got, ok := Read([]byte(x.s)); !slices.Equal(got, x.want) || !ok {
			t.Errorf("Read(%q) = %X, %t, want %X", x.s, got, ok, x.want)
		}
		if got := Charset([]byte(x.s)); got != x.charset {
			t.Errorf("Charset(%q) = %d, want %d", x.s, got, x.charset)
		}
		check(t, []byte(x.s))
	}
	for _, s := range []string{"", "a", "=?utf-8?Q??=", "=?utf-8?R?a?=", "=?utf-8?Q?a b?=", "=?utf-8?Q?a?= ", "=?utf-8?Q?" + strings.Repeat("a", 64) + "?="} {
		if got, ok := Read([]byte(s)); got != nil || ok {
			t.Errorf("Read(%q) = %X, %t", s, got, ok)
		}
		if got := Charset([]byte(s)); got != 0 {
			t.Errorf("Charset(%q) = %d", s, got)
		}
		check(t, []byte(s))
	}
}

// Each name in each way, and what is nearly one.
func TestEveryName(t *testing.T) {
	for charset, names := range namesOf() {
		for _, name := range names {
			for _, as := range []string{name, strings.ToUpper(name), strings.ToUpper(name[:1]) + name[1:], name + "*", name + "*de-AT", name + "**"} {
				s := []byte("=?" + as + "?Q?=A4?=")
				if got := Charset(s); got != charset || !Strict(s) {
					t.Errorf("Charset(%q) = %d, %t", s, got, Strict(s))
				}
				if got, ok := Read(s); !slices.Equal(got, codec.Read(charset, []byte{0xA4})) || !ok {
					t.Errorf("Read(%q) = %X, %t", s, got, ok)
				}
				check(t, s)
			}
			for at := range name {
				check(t, []byte("=?"+name[:at]+"?Q?=A4?="))
				check(t, []byte("=?"+name[at:]+"?Q?=A4?="))
				for _, c := range allOctets() {
					check(t, []byte("=?"+name[:at]+string([]byte{c})+name[at:]+"?Q?=A4?="))
					check(t, []byte("=?"+name[:at]+string([]byte{c})+name[at+1:]+"?Q?=A4?="))
				}
			}
		}
	}
}

// check asks all of it of whatever it is handed.

func TestEveryTwoOctets(t *testing.T) {
	for many := range 3 {
		every(allOctets(), many, func(s []byte) { check(t, s) })
	}
	for _, about := range [][2]string{{"=?", "?Q?a?="}, {"=?utf-8?", "?a?="}, {"=?utf-8?Q?", "?="}, {"=?utf-8?B?", "?="}, {"=?utf-8?B?Z", "=?="}} {
		every([]byte(texts), 2, func(s []byte) { check(t, slices.Concat([]byte(about[0]), s, []byte(about[1]))) })
		every(allOctets(), 1, func(s []byte) { check(t, slices.Concat([]byte(about[0]), s, []byte(about[1]))) })
	}
}

func TestEveryShortList(t *testing.T) {
	for many := range 8 {
		every([]byte("=?xQ"), many, func(s []byte) { check(t, s) })
	}
	for many := range 7 {
		every([]string{"=?", "?", "?=", "utf-8", "Q", "b"}, many, func(l []string) { check(t, []byte(strings.Join(l, ""))) })
	}
	for many := range 5 {
		every([]byte("=4aZ_Qg!"), many, func(s []byte) {
			for _, ahead := range []string{"=?utf-8?Q?", "=?x?q?", "=?cp1252?B?", "=?x?b?"} {
				check(t, slices.Concat([]byte(ahead), s, []byte("?=")))
			}
		})
	}
}

// Each octet put in, and in the place of another one, and each piece.
func TestEveryOctetAtEachPlace(t *testing.T) {
	for _, s := range []string{"=?utf-8?Q?=C3=A9_a?=", "=?iso-8859-15?b?pOk=?=", "=?x*en?B?Zm9vZg==?="} {
		for at := range len(s) + 1 {
			for _, c := range allOctets() {
				check(t, []byte(s[:at]+string([]byte{c})+s[at:]))
				if at < len(s) {
					check(t, []byte(s[:at]+string([]byte{c})+s[at+1:]))
				}
			}
			check(t, []byte(s[:at]))
			check(t, []byte(s[at:]))
			for to := at; to <= len(s); to++ {
				check(t, []byte(s[:at]+s[to:]))
			}
		}
	}
}

func TestRows(t *testing.T) {
	kinds := [][]byte{[]byte(texts), []byte(digits), []byte("=0aF_z"), []byte("Zg=!"), allOctets()}
	for many := 1; many < 80; many++ {
		for _, of := range kinds {
			row := someOf(of, many)
			for _, ahead := range []string{"=?utf-8?Q?", "=?l1?B?", "=?x?b?", "=?windows-1252?q?", "=?us-ascii?B?"} {
				check(t, slices.Concat([]byte(ahead), row, []byte("?=")))
			}
			check(t, row)
		}
	}
}

// P29.2

func TestOverCases(t *testing.T) {
	for charset, want := range map[int]int{api.ASCII: 15, api.Latin1: 17, api.Latin9: 18, api.Win: 19, api.UTF8: 12} {
		if got := Over(charset); got != want {
			t.Errorf("Over(%d) = %d, want %d", charset, got, want)
		}
	}
	for _, charset := range noCharsets {
		if got := Over(charset); got != 0 {
			t.Errorf("Over(%d) = %d", charset, got)
		}
	}
}

func TestLayCases(t *testing.T) {
	cases := []struct {
		charset, code int
		s, want       string
		err           api.Errno
	}{
		{api.Latin1, Q, "\xE9", "=?iso-8859-1?Q?=E9?=", api.OK}, {api.UTF8, Q, "\xC3\xA9", "=?utf-8?Q?=C3=A9?=", api.OK}, {api.UTF8, B, "\xC3\xA9", "=?utf-8?B?w6k=?=", api.OK}, {api.ASCII, Q, "a", "=?us-ascii?Q?a?=", api.OK}, {api.ASCII, B, "a", "=?us-ascii?B?YQ==?=", api.OK}, {api.Latin9, Q, "\xA4 ", "=?iso-8859-15?Q?=A4_?=", api.OK}, {api.Win, B, "\x80\x81\xFF", "=?windows-1252?B?gIH/?=", api.OK}, {api.UTF8, Q, "?=_", "=?utf-8?Q?=3F=3D=5F?=", api.OK}, {api.UTF8, Q, "\r\n\x00", "=?utf-8?Q?=0D=0A=00?=", api.OK},
		// Octets that are no text of the charset are laid, too.
		{api.ASCII, Q, "\xFF", "=?us-ascii?Q?=FF?=", api.OK}, {api.UTF8, B, "\xFF", "=?utf-8?B?/w==?=", api.OK}, {api.UTF8, Q, "\xC3", "=?utf-8?Q?=C3?=", api.OK},
		// The errors, and which is told first.
		{0, Q, "a", "", api.ErrCharset}, {6, B, "a", "", api.ErrCharset}, {-1, Q, "", "", api.ErrCharset}, {0, 0, "a", "", api.ErrCharset}, {6, 3, "", "", api.ErrCharset}, {0, Q, strings.Repeat("a", 99), "", api.ErrCharset},
		{api.UTF8, 0, "a", "", api.ErrForm}, {api.UTF8, 3, "a", "", api.ErrForm}, {api.UTF8, -1, "a", "", api.ErrForm}, {api.UTF8, 'Q', "a", "", api.ErrForm}, {api.UTF8, Q, "", "", api.ErrForm}, {api.UTF8, B, "", "", api.ErrForm}, {api.UTF8, 0, "", "", api.ErrForm}, {api.UTF8, 3, strings.Repeat("a", 99), "", api.ErrForm},
		{api.UTF8, Q, strings.Repeat("a", 63), "=?utf-8?Q?" + strings.Repeat("a", 63) + "?=", api.OK}, {api.UTF8, Q, strings.Repeat("a", 64), "", api.ErrLong}, {api.UTF8, Q, strings.Repeat("=", 21), "=?utf-8?Q?" + strings.Repeat("=3D", 21) + "?=", api.OK}, {api.UTF8, Q, strings.Repeat("=", 21) + "a", "", api.ErrLong}, {api.UTF8, B, strings.Repeat("foo", 15), "=?utf-8?B?" + strings.Repeat("Zm9v", 15) + "?=", api.OK}, {api.UTF8, B, strings.Repeat("foo", 15) + "f", "", api.ErrLong},
		// 60 of the 75 octets are left of ASCII's, 56 of Win's.
		{api.ASCII, B, strings.Repeat("foo", 15), "=?us-ascii?B?" + strings.Repeat("Zm9v", 15) + "?=", api.OK}, {api.ASCII, B, strings.Repeat("foo", 15) + "f", "", api.ErrLong}, {api.ASCII, Q, strings.Repeat("a", 60), "=?us-ascii?Q?" + strings.Repeat("a", 60) + "?=", api.OK}, {api.ASCII, Q, strings.Repeat("a", 61), "", api.ErrLong}, {api.Win, B, strings.Repeat("foo", 14), "=?windows-1252?B?" + strings.Repeat("Zm9v", 14) + "?=", api.OK}, {api.Win, B, strings.Repeat("foo", 14) + "f", "", api.ErrLong}, {api.Win, Q, strings.Repeat("a", 57), "", api.ErrLong},
		{api.UTF8, Q, strings.Repeat("a", 1<<20), "", api.ErrLong}, {api.UTF8, B, strings.Repeat("a", 1<<20), "", api.ErrLong},
	}
	for _, x := range cases {
		got, err := Lay(x.charset, x.code, []byte(x.s))
		if string(got) != x.want || err != x.err || err != api.OK && got != nil {
			t.Errorf("Lay(%d, %d, %q) = %q, %d, want %q, %d", x.charset, x.code, x.s, got, err, x.want, x.err)
		}
		checkLaid(t, x.charset, x.code, []byte(x.s))
	}
}

func TestLayOfNoCharsetAndNoCode(t *testing.T) {
	for _, s := range [][]byte{nil, []byte("a"), someOf(allOctets(), 99)} {
		for _, charset := range noCharsets {
			for _, code := range append(slices.Clone(noCodes), B, Q) {
				if got, err := Lay(charset, code, s); got != nil || err != api.ErrCharset {
					t.Errorf("Lay(%d, %d, %q) = %q, %d", charset, code, s, got, err)
				}
			}
		}
		for _, charset := range charsets {
			for _, code := range noCodes {
				if got, err := Lay(charset, code, s); got != nil || err != api.ErrForm {
					t.Errorf("Lay(%d, %d, %q) = %q, %d", charset, code, s, got, err)
				}
			}
		}
	}
}

// P29.2 and P29.3: of each length about the limit, and of octets of each cost.
func TestLayOfEachLength(t *testing.T) {
	kinds := [][]byte{[]byte("a"), []byte("="), []byte("a="), []byte(" a\xE9"), []byte(texts), allOctets()}
	for _, charset := range charsets {
		for many := range 90 {
			for _, of := range kinds {
				s := someOf(of, many)
				checkLaid(t, charset, B, s)
				checkLaid(t, charset, Q, s)
			}
		}
	}
}

func TestLayOfEveryTwoOctets(t *testing.T) {
	// By turns, as each pair of each charset and code would take long.
	every(allOctets(), 2, func(s []byte) {
		turn := int(s[0]) + int(s[1])
		checkLaid(t, charsets[turn%len(charsets)], B+turn%2, s)
	})
	for _, charset := range charsets {
		every(allOctets(), 1, func(s []byte) {
			checkLaid(t, charset, B, s)
			checkLaid(t, charset, Q, s)
		})
		every([]byte("a =?_\r\x00\x80\xC3\xA9"), 3, func(s []byte) {
			checkLaid(t, charset, B, s)
			checkLaid(t, charset, Q, s)
		})
	}
}

// What is laid is read by the library, too.
func TestLibraryReadsWhatIsLaid(t *testing.T) {
	for charset, names := range namesOf() {
		for many := 1; many < 46; many++ {
			for _, of := range [][]byte{[]byte(texts), []byte(" a?=_"), allOctets()} {
				text := codec.Read(charset, someOf(of, many))
				// Only what the charset has: the library tells others of what it can't read.
				s, err := codec.Lay(charset, text)
				if err != api.OK {
					continue
				}
				for _, code := range []int{B, Q} {
					checkLibrary(t, names[0], charset, code, s, string(text))
				}
			}
		}
	}
}

// checkLibrary holds what the library reads of what is laid against the text.
func checkLibrary(t *testing.T, name string, charset, code int, s []byte, text string) {
	t.Helper()
	laid, err := Lay(charset, code, s)
	if err != api.OK {
		return
	}
	reader := mime.WordDecoder{CharsetReader: readerOf(t, name, charset)}
	if got, err := reader.Decode(string(laid)); got != text || err != nil {
		t.Fatalf("%q is laid as %q, and the library reads %q, %v", s, laid, got, err)
	}
}
