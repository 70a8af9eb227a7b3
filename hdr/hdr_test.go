package hdr

import (
	"math"
	"mime"
	"regexp"
	"slices"
	"strings"
	"testing"
	"time"

	"sheave/api"
	"sheave/ewcut"
	"sheave/ewread"
)

// The words of the document as patterns, over octets.
var (
	oneRun  = regexp.MustCompile(`[^ \t\r\n]+`)
	anyWord = regexp.MustCompile("^=\\?([!#$%&'*+\\-.0-9A-Z^_`a-z{|}~]+)\\?([BbQq])\\?([!->@-~]+)\\?=\\z")
	strictB = regexp.MustCompile(`^(?:[A-Za-z0-9+/]{4})*(?:[A-Za-z0-9+/][AQgw]==|[A-Za-z0-9+/]{2}[AEIMQUYcgkosw048]=)?\z`)
	strictQ = regexp.MustCompile(`^(?:[!-<>@-~]|=[0-9A-Fa-f]{2})*\z`)
	known   = regexp.MustCompile(`(?i)^(?:us-ascii|ascii|ansi_x3\.4-1968|iso646-us|iso[-_]8859-1|latin1|l1|iso[-_]8859-15|latin-9|windows-1252|cp1252|utf-8|utf8)(?:\*.*)?\z`)
)

// The lengths of names: all that may be, and some that may not.
var (
	lengths   = numbersTo(40)
	noLengths = []int{math.MinInt, math.MinInt + 1, -256, -41, -1, 0, 41, 42, 73, 74, 75, 76, 257, 1<<16 + 1, 1<<32 + 1, math.MaxInt - 2, math.MaxInt - 1, math.MaxInt}
)

// numbersTo are those from 1 on.
func numbersTo(last int) []int {
	var list []int
	for n := 1; n <= last; n++ {
		list = append(list, n)
	}
	return list
}

// roomExpected is the first line's room by the words.
func roomExpected(n int) int {
	if n < 1 || n > 40 {
		return 0
	}
	return 76 - (n + 2)
}

// plainExpected tells by the words whether a text is plain.
func plainExpected(t []rune) bool {
	for i, c := range t {
		if c < 32 || c > 126 || c == '=' && i+1 < len(t) && t[i+1] == '?' {
			return false
		}
	}
	return true
}

// foldExpected is a plain text in lines, each as long as may be, and whether that may be.
func foldExpected(s string, room int) (string, bool) {
	out := ""
	for len(s) > room {
		at := strings.LastIndexByte(s[:room+1], ' ')
		if at <= 0 {
			return "", false
		}
		out += s[:at] + "\r\n"
		s, room = s[at:], 76
	}
	return out + s, true
}

// laid is a text, laid.
type laid struct {
	s    string
	bare bool
	err  api.Errno
}

// layExpected is that by the words, of which layer 31 knows the encoded-words.
func layExpected(n int, t []rune) laid {
	if n < 1 || n > 40 {
		return laid{err: api.ErrArg}
	}
	for _, c := range t {
		if c < 0 || c > 0x10FFFF || 0xD800 <= c && c <= 0xDFFF {
			return laid{err: api.ErrScalar}
		}
	}
	for _, c := range t {
		if c == 13 || c == 10 || c == 0 {
			return laid{err: api.ErrControl}
		}
	}
	if plainExpected(t) {
		if s, ok := foldExpected(string(t), roomExpected(n)); ok {
			return laid{s: s, bare: true}
		}
	}
	s, err := ewcut.Fold(t, roomExpected(n))
	return laid{s: string(s), err: err}
}

// strictExpected tells by the words whether a run is a strict encoded-word.
func strictExpected(s string) bool {
	found := anyWord.FindStringSubmatch(s)
	if found == nil || len(s) > 75 || !known.MatchString(found[1]) {
		return false
	}
	if found[2] == "B" || found[2] == "b" {
		return strictB.MatchString(found[3])
	}
	return strictQ.MatchString(found[3])
}

// rightExpected tells by the words whether a header is right.
func rightExpected(n int, s string) bool {
	if n < 1 || n > 40 {
		return false
	}
	room := roomExpected(n)
	for i, line := range strings.Split(s, "\r\n") {
		if i > 0 && !strings.HasPrefix(line, " ") || len(line) > room {
			return false
		}
		for _, c := range []byte(line) {
			if c < 32 || c > 126 {
				return false
			}
		}
		room = 76
	}
	for _, run := range oneRun.FindAllString(s, -1) {
		if strings.HasPrefix(run, "=?") && !strictExpected(run) {
			return false
		}
	}
	return true
}

// checkText holds what is told of a text against what is expected, and what is laid against what follows.
func checkText(t *testing.T, n int, text []rune) {
	t.Helper()
	if got := Plain(text); got != plainExpected(text) {
		t.Fatalf("Plain(%+q) = %t", text, got)
	}
	want := layExpected(n, text)
	s, err := Lay(n, text)
	if got := (laid{string(s), Bare(n, text), err}); got != want {
		t.Fatalf("%d, %+q is laid as %+v, want %+v", n, text, got, want)
	}
	if err == api.OK {
		checkLaid(t, n, text, s)
	}
}

// checkLaid holds what is laid against P34.3 and P34.4, and against the library, as far as that reads.
func checkLaid(t *testing.T, n int, text []rune, s []byte) {
	t.Helper()
	if got := Read(s); !slices.Equal(got, text) {
		t.Fatalf("%d, %+q is laid as %q, and read as %+q", n, text, s, got)
	}
	if !Right(n, s) || !rightExpected(n, string(s)) {
		t.Fatalf("%d, %+q is laid as %q, which is not right", n, text, s)
	}
	again, err := Again(n, s)
	if err != api.OK || string(again) != string(s) {
		t.Fatalf("%q is laid again as %q, %d", s, again, err)
	}
	one := strings.ReplaceAll(string(s), "\r\n", "")
	if !Bare(n, text) {
		one, err := new(mime.WordDecoder).DecodeHeader(one)
		if err == nil && one != string(text) {
			t.Fatalf("%d, %+q is laid as %q, and the library reads %+q", n, text, s, one)
		}
		return
	}
	if one != string(text) {
		t.Fatalf("%d, %+q is laid as %q, and unfolded %q", n, text, s, one)
	}
}

// checkOctets holds what is told of octets against what is expected.
func checkOctets(t *testing.T, n int, s []byte) {
	t.Helper()
	if got := Right(n, s); got != rightExpected(n, string(s)) {
		t.Fatalf("Right(%d, %q) = %t", n, s, got)
	}
	text := Read(s)
	if !slices.Equal(text, ewread.Read(s)) {
		t.Fatalf("%q is read as %+q", s, text)
	}
	want := layExpected(n, text)
	got, err := Again(n, s)
	if string(got) != want.s || err != want.err {
		t.Fatalf("Again(%d, %q) = %q, %d, want %+v", n, s, got, err, want)
	}
	if err == api.OK {
		checkLaid(t, n, text, got)
	}
}

// every hands on all lists of these elements of so many of them.
func every[E any](of []E, many int, do func(s []E)) {
	s := make([]E, many)
	var from func(at int)
	from = func(at int) {
		if at == many {
			do(s)
			return
		}
		for _, c := range of {
			s[at] = c
			from(at + 1)
		}
	}
	from(0)
}

// allOctets are those from 0 to 255.
func allOctets() []byte {
	var s []byte
	for c := range 256 {
		s = append(s, byte(c))
	}
	return s
}

// someOf is a row of so many of these elements that has no short period.
func someOf[E any](of []E, many int) []E {
	s := make([]E, many)
	x := uint32(many) + 1
	for i := range s {
		x = x*1664525 + 1013904223
		s[i] = of[int(x>>16)%len(of)]
	}
	return s
}

// row is a text so many times.
func row(s string, many int) []rune { return []rune(strings.Repeat(s, many)) }

// kinds are signs of each length and charset, edges, and numbers that are none.
func kinds() []rune {
	return []rune{'a', ' ', '=', '?', '_', '~', 0, '\t', '\n', '\v', '\r', 31, 0x7F, 0x80, 0xA4, 0xE9, 0x160, 0x20AC, 0x201C, 0x800, 0xFFFD, 0xFFFF, 0x1F600, 0x10FFFF, 0xD800, 0xDFFF, 0x110000, -1, math.MinInt32, math.MaxInt32}
}

// P34.1

func TestRoom(t *testing.T) {
	for n, want := range map[int]int{0: 0, 1: 73, 2: 72, 7: 67, 39: 35, 40: 34, 41: 0, -1: 0} {
		if got := Room(n); got != want {
			t.Errorf("Room(%d) = %d, want %d", n, got, want)
		}
	}
	for _, n := range slices.Concat(lengths, noLengths) {
		if got := Room(n); got != roomExpected(n) {
			t.Errorf("Room(%d) = %d, want %d", n, got, roomExpected(n))
		}
	}
}

func TestPlainCases(t *testing.T) {
	cases := []struct {
		t    []rune
		want bool
	}{
		{nil, true}, {[]rune("a"), true}, {[]rune(" "), true}, {[]rune("~"), true}, {[]rune{31}, false}, {[]rune{127}, false}, {[]rune{9}, false}, {[]rune{0}, false}, {[]rune{10}, false}, {[]rune{0xE9}, false}, {[]rune{'a', 0x120}, false}, {[]rune{256 + 'a'}, false}, {[]rune{1<<16 + 'a'}, false}, {[]rune{-1}, false}, {[]rune{0xD800}, false}, {[]rune{0x110000}, false}, {[]rune{math.MinInt32 + 'a'}, false},
		{[]rune("="), true}, {[]rune("?"), true}, {[]rune("?="), true}, {[]rune("=?"), false}, {[]rune("= ?"), true}, {[]rune("=a?"), true}, {[]rune("=="), true}, {[]rune("==?"), false}, {[]rune("?=?"), false}, {[]rune("a=?b"), false}, {[]rune("a =?"), false}, {[]rune("=?="), false}, {[]rune("??=="), true}, {[]rune("a="), true}, {[]rune("=?utf-8?Q?b?="), false},
		{row("a", 200), true}, {row(" ", 200), true}, {append(row("a", 200), '=', '?'), false},
	}
	for _, x := range cases {
		if got := Plain(x.t); got != x.want {
			t.Errorf("Plain(%+q) = %t", x.t, got)
		}
	}
}

func TestLayCases(t *testing.T) {
	as := func(many int) string { return strings.Repeat("a", many) }
	cases := []struct {
		n    int
		t    []rune
		want laid
	}{
		{7, []rune("Hello"), laid{"Hello", true, 0}}, {1, nil, laid{"", true, 0}}, {40, []rune{}, laid{"", true, 0}}, {7, []rune(" "), laid{" ", true, 0}}, {7, []rune(" a  b "), laid{" a  b ", true, 0}}, {7, []rune("= ?"), laid{"= ?", true, 0}}, {7, []rune("a?=b"), laid{"a?=b", true, 0}},
		// The first line's room, and what is more than that.
		{1, row("a", 73), laid{as(73), true, 0}}, {40, row("a", 34), laid{as(34), true, 0}}, {7, row("a", 67), laid{as(67), true, 0}}, {7, []rune(as(67) + " b"), laid{as(67) + "\r\n b", true, 0}}, {7, []rune(as(66) + " b"), laid{as(66) + "\r\n b", true, 0}}, {7, []rune(as(65) + " b"), laid{as(65) + " b", true, 0}}, {7, []rune("b " + as(75)), laid{"b\r\n " + as(75), true, 0}}, {7, []rune("a b c " + as(75) + " d"), laid{"a b c\r\n " + as(75) + "\r\n d", true, 0}},
		// A row that no line has room for.
		{1, row("a", 74), laid{"=?us-ascii?Q?" + as(58) + "?=\r\n =?us-ascii?Q?" + as(16) + "?=", false, 0}}, {40, row("a", 35), laid{"=?us-ascii?Q?" + as(19) + "?=\r\n =?us-ascii?Q?" + as(16) + "?=", false, 0}}, {7, []rune("b " + as(76)), laid{"=?us-ascii?Q?b_" + as(50) + "?=\r\n =?us-ascii?Q?" + as(26) + "?=", false, 0}}, {40, []rune(as(35) + " b"), laid{"=?us-ascii?Q?" + as(19) + "?=\r\n =?us-ascii?Q?" + as(16) + "_b?=", false, 0}}, {40, []rune(" " + as(76)), laid{"=?us-ascii?Q?_" + as(18) + "?=\r\n =?us-ascii?Q?" + as(58) + "?=", false, 0}},
		// What is not plain.
		{7, []rune{0xE9}, laid{"=?iso-8859-1?Q?=E9?=", false, 0}}, {7, []rune("=?"), laid{"=?us-ascii?B?PT8=?=", false, 0}}, {7, []rune("aaaa=?"), laid{"=?us-ascii?B?YWFhYT0/?=", false, 0}}, {7, []rune("a\tb"), laid{"=?us-ascii?B?YQli?=", false, 0}}, {7, []rune("ab\tcd"), laid{"=?us-ascii?Q?ab=09cd?=", false, 0}}, {7, []rune{127}, laid{"=?us-ascii?Q?=7F?=", false, 0}}, {7, []rune{0xE9, 0x20AC}, laid{"=?iso-8859-15?B?6aQ=?=", false, 0}}, {7, []rune{'a', 0x201C}, laid{"=?windows-1252?Q?a=93?=", false, 0}}, {7, []rune{0x1F600}, laid{"=?utf-8?B?8J+YgA==?=", false, 0}}, {1, append(row("a", 60), 0xE9), laid{"=?iso-8859-1?Q?" + as(56) + "?=\r\n =?iso-8859-1?Q?aaaa=E9?=", false, 0}}, {40, row("\U0001F600", 4), laid{"=?utf-8?B?8J+YgPCfmIDwn5iA?=\r\n =?utf-8?B?8J+YgA==?=", false, 0}},
	}
	for _, x := range cases {
		s, err := Lay(x.n, x.t)
		if got := (laid{string(s), Bare(x.n, x.t), err}); got != x.want {
			t.Errorf("%d, %+q is laid as %+v, want %+v", x.n, x.t, got, x.want)
		}
		checkText(t, x.n, x.t)
	}
}

func TestErrors(t *testing.T) {
	cases := []struct {
		n    int
		t    []rune
		want api.Errno
	}{
		{0, []rune("a"), api.ErrArg}, {41, []rune("a"), api.ErrArg}, {-1, nil, api.ErrArg}, {math.MaxInt, nil, api.ErrArg}, {math.MinInt, nil, api.ErrArg},
		{7, []rune{-1}, api.ErrScalar}, {7, []rune{0xD800}, api.ErrScalar}, {7, []rune{'a', 0x110000}, api.ErrScalar},
		{7, []rune{10}, api.ErrControl}, {7, []rune{13}, api.ErrControl}, {7, []rune{0}, api.ErrControl}, {7, []rune{'a', 13, 10, ' '}, api.ErrControl}, {7, []rune{0xE9, 0}, api.ErrControl},
		// The one that is named first.
		{0, []rune{-1}, api.ErrArg}, {41, []rune{10}, api.ErrArg}, {0, []rune{10, 0xD800}, api.ErrArg}, {1, []rune{10, 0xD800}, api.ErrScalar}, {40, []rune{0xD800, 10}, api.ErrScalar}, {40, append(row("a", 100), 0, -1), api.ErrScalar},
	}
	for _, x := range cases {
		if s, err := Lay(x.n, x.t); len(s) != 0 || err != x.want || Bare(x.n, x.t) {
			t.Errorf("%d, %+q is laid as %q, %d, want %d", x.n, x.t, s, err, x.want)
		}
		checkText(t, x.n, x.t)
	}
}

func TestLengthsThatAreNone(t *testing.T) {
	for _, n := range noLengths {
		for _, text := range [][]rune{nil, []rune("Hello"), {0xE9}, {10}, {-1}, row("a", 100)} {
			checkText(t, n, text)
		}
		for _, s := range []string{"", "Hello", "=?utf-8?Q?b?=", "=?utf-8?Q?=0A?=", "a\r\n b", "\x80"} {
			checkOctets(t, n, []byte(s))
			if s, err := Again(n, []byte(s)); len(s) != 0 || err != api.ErrArg {
				t.Errorf("Again(%d, ..) = %q, %d", n, s, err)
			}
		}
	}
}

// Each sign of the lower ones, and the edges of all, by itself and beside others.
func TestEverySign(t *testing.T) {
	signs := kinds()
	for c := rune(-2); c < 0x900; c++ {
		signs = append(signs, c)
	}
	for c := rune(0x2000); c < 0x2200; c++ {
		signs = append(signs, c)
	}
	for _, c := range signs {
		checkText(t, 7, []rune{c})
		checkText(t, 40, []rune{'a', c})
		checkText(t, 1, []rune{c, ' ', 0xE9})
	}
}

// Texts of all kinds of signs, up to three.
func TestEveryShortText(t *testing.T) {
	for many := range 4 {
		every(kinds(), many, func(text []rune) { checkText(t, 7, text) })
	}
	for many := range 8 {
		every([]rune("a =?"), many, func(text []rune) { checkText(t, 40, text) })
	}
}

// Each two of the octets that a plain text may have, and those beside them.
func TestEveryPlainPair(t *testing.T) {
	for a := rune(30); a < 129; a++ {
		for b := rune(30); b < 129; b++ {
			checkText(t, 7, []rune{a, b})
		}
	}
}

// P34.2

func TestRightCases(t *testing.T) {
	as := func(many int) string { return strings.Repeat("a", many) }
	cases := []struct {
		n    int
		s    string
		want bool
	}{
		{7, "", true}, {7, "Hello", true}, {7, "a b", true}, {1, " ", true}, {40, "~", true},
		{0, "", false}, {41, "", false}, {0, "Hello", false}, {41, "a b", false}, {-1, "a", false},
		// Ends.
		{7, "a\r\n b", true}, {7, "a\r\n b\r\n c", true}, {7, "\r\n a", true}, {7, "a\r\n ", true}, {7, "a\r\n \r\n b", true}, {7, "a \r\n  b", true}, {7, "a\r\n\tb", false}, {7, "a\r\n b\r\n\tc", false}, {7, "a\r\n", false}, {7, "a\r\nb", false}, {7, "a\r\n\r\n b", false}, {7, "a\r b", false}, {7, "a\n b", false}, {7, "a\r\r\n b", false}, {7, "a\r\n\n b", false}, {7, "a\n\r b", false}, {7, "\r", false}, {7, "\n", false}, {7, "\r\n", false}, {7, "a\r\n b\r\n", false},
		// Other octets.
		{7, "a\tb", false}, {7, "a\x00", false}, {7, "\x1F", false}, {7, "\x7F", false}, {7, "\x80", false}, {7, "\xC3\xA9", false}, {7, "a\r\n \tb", false}, {7, "a\t\r\n b", false}, {7, "a\r\n b\xFF", false},
		// How long lines are.
		{1, as(73), true}, {1, as(74), false}, {7, as(67), true}, {7, as(68), false}, {40, as(34), true}, {40, as(35), false}, {7, as(67) + "\r\n " + as(75), true}, {7, as(67) + "\r\n " + as(76), false}, {7, as(68) + "\r\n a", false}, {7, "\r\n " + as(75) + "\r\n " + as(75), true}, {7, "\r\n " + as(75) + "\r\n " + as(76), false}, {40, as(34) + "\r\n " + as(75), true}, {40, as(35) + "\r\n ", false},
		// Runs that begin as an encoded-word.
		{7, "=?utf-8?Q?b?=", true}, {7, "a =?utf-8?Q?b?= c", true}, {7, "=?utf-8?B?w6k=?=", true}, {7, "=?UTF8*en?q?=c3?=", true}, {7, "=?utf-8?Q?=FF?=", true}, {7, "=?x?Q?b?=", false}, {7, "=?utf-8?B?w6k?=", false}, {7, "=?utf-8?B?w6l=?=", false}, {7, "=?utf-8?Q?=z?=", false}, {7, "=?utf-8?R?b?=", false}, {7, "=?utf-8?Q??=", false}, {7, "=?utf-8?Q?b c?=", false}, {7, "=?", false}, {7, "a =? b", false}, {7, "=?b", false}, {7, "=?=", false}, {7, "=?utf-8?Q?b?=c", false}, {7, "=?utf-8?Q?b?=,", false}, {7, "=?utf-8?Q?b?==?utf-8?Q?c?=", false}, {7, "=?utf-8?Q?b\r\n c?=", false}, {7, "a\r\n =?x?Q?b?=", false}, {7, "a =?utf-8?Q?b?=\r\n =?utf-8?Q?c?= =?x?Q?d?=", false}, {7, "=?utf-8?Q?b?= =?utf-8?Q?c?=\r\n =?utf-8?Q?d?=", true},
		// Others that have it further on.
		{7, "a=?", true}, {7, "(=?x?Q?b?=)", true}, {7, "a=?utf-8?Q?b?=", true}, {7, "==?", true}, {7, "?=?", true}, {7, "= ?", true}, {7, "?= =", true},
		// One that is too long by itself.
		{7, "\r\n =?utf-8?Q?" + as(63) + "?=", true}, {7, "\r\n =?utf-8?Q?" + as(64) + "?=", false}, {1, "=?utf-8?Q?" + as(61) + "?=", true}, {1, "=?utf-8?Q?" + as(62) + "?=", false},
	}
	for _, x := range cases {
		if got := Right(x.n, []byte(x.s)); got != x.want {
			t.Errorf("Right(%d, %q) = %t", x.n, x.s, got)
		}
		checkOctets(t, x.n, []byte(x.s))
	}
}

func TestReadCases(t *testing.T) {
	cases := []struct{ s, want string }{
		{"", ""}, {"Hello", "Hello"}, {"a\r\n b", "a b"}, {"a\r\nb", "a\r\nb"}, {"=?utf-8?Q?b?=\r\n =?utf-8?Q?c?=", "bc"}, {"a =?iso-8859-1?Q?=E9?= b", "a \u00E9 b"}, {"=?utf-8?Q?=C3=A9?=", "\u00E9"}, {"=?x?Q?=C3?=", "\u00C3"}, {"\xC3\xA9\xFF", "\u00E9\uFFFD"}, {"=?", "=?"}, {"=?utf-8?Q?=0D=0A?=", "\r\n"},
	}
	for _, x := range cases {
		if got := Read([]byte(x.s)); string(got) != x.want {
			t.Errorf("%q is read as %+q, want %+q", x.s, got, x.want)
		}
	}
}

func TestAgainCases(t *testing.T) {
	cases := []struct {
		n       int
		s, want string
		err     api.Errno
	}{
		{7, "", "", 0}, {7, "Hello", "Hello", 0}, {7, "a\r\n b", "a b", 0}, {7, "ab\r\n\tcd", "=?us-ascii?Q?ab=09cd?=", 0}, {7, "=?utf-8?Q?b?=\r\n =?utf-8?Q?c?=", "bc", 0}, {7, "=?utf-8?Q?a_b?= c", "a b c", 0}, {7, "=?utf-8?Q?=C3=A9?=", "=?iso-8859-1?Q?=E9?=", 0}, {7, "\xC3\xA9", "=?iso-8859-1?Q?=E9?=", 0}, {7, "\xFF", "=?utf-8?B?77+9?=", 0}, {7, "=?", "=?us-ascii?B?PT8=?=", 0}, {40, "=?us-ascii?Q?" + strings.Repeat("a", 34) + "?=", strings.Repeat("a", 34), 0},
		{0, "a", "", api.ErrArg}, {41, "=?utf-8?Q?=00?=", "", api.ErrArg}, {7, "a\r\nb", "", api.ErrControl}, {7, "a\r", "", api.ErrControl}, {7, "\n", "", api.ErrControl}, {7, "\x00", "", api.ErrControl}, {7, "=?utf-8?Q?=0A?=", "", api.ErrControl},
		// What is read is of scalar values alone.
		{7, "\xED\xA0\x80", "=?utf-8?B?77+977+977+9?=", 0}, {7, "\xFF\n", "", api.ErrControl},
	}
	for _, x := range cases {
		s, err := Again(x.n, []byte(x.s))
		if string(s) != x.want || err != x.err {
			t.Errorf("Again(%d, %q) = %q, %d, want %q, %d", x.n, x.s, s, err, x.want, x.err)
		}
		checkOctets(t, x.n, []byte(x.s))
	}
}

func TestEveryTwoOctets(t *testing.T) {
	for many := range 3 {
		every(allOctets(), many, func(s []byte) { checkOctets(t, 7, s) })
	}
}

// Each octet in folds, in words, and beside them.
func TestEachOctetAtEachPlace(t *testing.T) {
	for _, s := range []string{"a =?utf-8?Q?=C3?=\r\n =?l1?b?6Q==?= b", "a\r\n b"} {
		for at := range len(s) + 1 {
			for _, c := range allOctets() {
				checkOctets(t, 7, []byte(s[:at]+string([]byte{c})+s[at:]))
				checkOctets(t, 40, []byte(s[:at]+string([]byte{c})+s[min(at+1, len(s)):]))
			}
			checkOctets(t, 7, []byte(s[:at]))
			checkOctets(t, 7, []byte(s[at:]))
		}
	}
}

func TestEveryShortInput(t *testing.T) {
	for many := range 7 {
		every([]byte(" \r\na=?"), many, func(s []byte) { checkOctets(t, 40, s) })
	}
	for many := range 5 {
		every([]byte(" \t\r\n\x00\x1F~\x7F\x80\xC3\xA9\xFF"), many, func(s []byte) { checkOctets(t, 1, s) })
	}
	parts := []string{" ", "\t", "\r\n", "\r\n ", "=?utf-8?Q?=C3?=", "=?x?b??=", "=?x?q?b?=", "=?l1?b?6Q==?=", "a", "=?", "?="}
	for many := range 5 {
		every(parts, many, func(texts []string) { checkOctets(t, 7, []byte(strings.Join(texts, ""))) })
	}
}

// Lines about each length that a name leaves, the first ones and others.
func TestLinesOfLengths(t *testing.T) {
	for _, n := range lengths {
		for many := 30; many < 80; many++ {
			as := strings.Repeat("a", many)
			for _, s := range []string{as, as + "\r\n b", "b\r\n " + as, "b\r\n " + as + "\r\n c", as + "\r\n " + as, "=?l1?q?" + as + "?=", "b\r\n =?l1?q?" + as + "?="} {
				checkOctets(t, n, []byte(s))
			}
		}
	}
}

// P34.3 and P34.4: checkText asks them of whatever is laid.

func TestTextsOfLengths(t *testing.T) {
	for _, n := range lengths {
		for many := range 160 {
			checkText(t, n, row("a", many))
			checkText(t, n, []rune("a "+strings.Repeat("b", many)+" c"))
			checkText(t, n, []rune(strings.Repeat("b", many)+" "+strings.Repeat("c", many)))
			checkText(t, n, append(row("a", many), 0x1F600))
		}
	}
}

func TestRows(t *testing.T) {
	signs := []rune{'a', ' ', 'b', '=', '?', '_', 9, 0x7F, 0xA4, 0xE9, 0xFF, 0x153, 0x20AC, 0x3B1, 0xFFFD, 0x1F600, 0x10FFFF}
	for from := range len(signs) {
		for many := range 300 {
			checkText(t, many%40+1, someOf(signs[:from+1], many))
		}
	}
	for many := range 600 {
		checkText(t, many%40+1, row(" ", many))
		checkText(t, many%40+1, someOf([]rune("abcdefghijklmnopqrstuvwxyz "), many))
		checkText(t, many%40+1, someOf([]rune(strings.Repeat("abcdefghijk", 5)+" "), many))
		checkOctets(t, many%40+1, someOf([]byte(" \r\na"), many))
		checkOctets(t, many%40+1, someOf(allOctets(), many))
	}
}

// Whatever is plain and may be folded has no encoded-word, and is itself unfolded.
func TestPlainIsBare(t *testing.T) {
	var plain []rune
	for c := rune(32); c <= 126; c++ {
		plain = append(plain, c)
	}
	// All 95 of them in a row may not be folded: parted, they may.
	text := slices.Repeat(plain, 4)
	for at := 20; at < len(text); at += 21 {
		text = slices.Insert(text, at, ' ')
	}
	for _, n := range lengths {
		s, err := Lay(n, plain[:34])
		if string(s) != string(plain[:34]) || err != api.OK || !Bare(n, plain[:34]) {
			t.Errorf("%d, %q is laid as %q, %d", n, string(plain[:34]), s, err)
		}
		s, err = Lay(n, text)
		if strings.ReplaceAll(string(s), "\r\n", "") != string(text) || err != api.OK || !Bare(n, text) {
			t.Errorf("%d, %q is laid as %q, %d", n, string(text), s, err)
		}
	}
}

func TestLongTexts(t *testing.T) {
	begin := time.Now()
	cases := []struct {
		text []rune
		bare bool
	}{
		{row("ab ", 200_000), true}, {row(" ", 600_000), true}, {row("a", 600_000), false}, {row("=?", 300_000), false}, {row("\u00E9 ", 300_000), false}, {row("\U0001F600", 200_000), false}, {append(row("ab ", 200_000), row("a", 77)...), false}, {append(row("= ? ", 100_000), '\t'), false},
	}
	for _, x := range cases {
		s, err := Lay(7, x.text)
		if err != api.OK || Bare(7, x.text) != x.bare || !Right(7, s) || !slices.Equal(Read(s), x.text) {
			t.Errorf("%.30q is laid as %.90q, %d", string(x.text), s, err)
		}
		if again, err := Again(7, s); err != api.OK || string(again) != string(s) {
			t.Errorf("%.30q is laid again as %.90q, %d", s, again, err)
		}
	}
	if Right(7, []byte(strings.Repeat("=?x?Q?b?= ", 60_000))) || Right(7, []byte(strings.Repeat("a\r\n ", 200_000)+"\n")) {
		t.Error("what is not right is right")
	}
	if took := time.Since(begin); took > 20*time.Second {
		t.Errorf("long texts took %v", took)
	}
}
