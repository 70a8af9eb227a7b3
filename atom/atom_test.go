package atom

import (
	"fmt"
	"math"
	"mime"
	"regexp"
	"slices"
	"strings"
	"testing"

	"sheave/api"
)

// tokens are the octets of tokens, written out.
const tokens = "!#$%&'*+-.0123456789ABCDEFGHIJKLMNOPQRSTUVWXYZ^_`abcdefghijklmnopqrstuvwxyz{|}~"

// octetEdges are octets that stand beside others of another kind.
var octetEdges = []byte("\r\n \t()\\\"ab!~%;=\x00\x08\x0B\x0C\x0E\x1F\x7F\x80\x85\x8A\x8D\xA0\xFF")

// The words of the document as patterns, over octets.
var (
	firstQuoted = regexp.MustCompile(`(?s)^"((?:[^"\\]|\\.)*)"`)
	oneTaken    = regexp.MustCompile(`(?s)\\(.)`)
)

// isToken asks what is written out.
func isToken(c byte) bool { return strings.IndexByte(tokens, c) >= 0 }

// within is the place that is meant.
func within(s string, at int) int {
	switch {
	case at < 0:
		return 0
	case at > len(s):
		return len(s)
	}
	return at
}

// behindComment is what stands behind the comment whose `(` stood ahead of a text, and how deep it is.
func behindComment(s string) (string, int) {
	deepest := 0
	for s != "" {
		c, rest := s[0], s[1:]
		switch {
		case c == ')':
			return rest, deepest + 1
		case c == '(':
			behind, depth := behindComment(rest)
			rest, deepest = behind, max(deepest, depth)
		case c == '\\' && rest != "":
			rest = rest[1:]
		}
		s = rest
	}
	return "", deepest + 1
}

// behindGap is what stands behind the gap that a text begins with.
func behindGap(s string) string {
	for s != "" && strings.IndexByte("\r\n \t(", s[0]) >= 0 {
		c := s[0]
		s = s[1:]
		if c == '(' {
			s, _ = behindComment(s)
		}
	}
	return s
}

// gapExpected is Gap by the words.
func gapExpected(s string, at int) int { return len(s) - len(behindGap(s[within(s, at):])) }

// skipExpected is Skip by the words.
func skipExpected(s string, at int, c byte) (int, bool) {
	behind := behindGap(s[within(s, at):])
	if behind != "" && behind[0] == c {
		return len(s) - len(behind) + 1, true
	}
	return within(s, at), false
}

// depthExpected is Depth by the words.
func depthExpected(s string) int {
	if !strings.HasPrefix(s, "(") {
		return 0
	}
	_, depth := behindComment(s[1:])
	return depth
}

// tokenExpected is Token by the words.
func tokenExpected(s string, at int) (string, int, api.Errno) {
	at = within(s, at)
	if at == len(s) {
		return "", 0, api.ErrEnd
	}
	bare := strings.TrimLeft(s[at:], tokens)
	to := len(s) - len(bare)
	if to == at {
		return "", 0, api.ErrForm
	}
	return s[at:to], to, api.OK
}

// valueExpected is Value by the words.
func valueExpected(s string, at int) (string, int, api.Errno) {
	at = within(s, at)
	if !strings.HasPrefix(s[at:], `"`) {
		return tokenExpected(s, at)
	}
	found := firstQuoted.FindSubmatch([]byte(s[at:]))
	if found == nil {
		return "", 0, api.ErrEnd
	}
	return oneTaken.ReplaceAllString(string(found[1]), "$1"), at + len(found[0]), api.OK
}

// plainExpected is Plain by the words.
func plainExpected(s string) bool { return s != "" && strings.Trim(s, tokens) == "" }

// layExpected is Lay by the words.
func layExpected(s string) string {
	if plainExpected(s) {
		return s
	}
	return `"` + strings.NewReplacer(`"`, `\"`, `\`, `\\`).Replace(s) + `"`
}

// check holds what the calls answer of octets, at each place and about the ends, against what is expected.
func check(t *testing.T, s []byte) {
	t.Helper()
	for at := -1; at <= len(s)+1; at++ {
		checkAt(t, s, at)
	}
	text := string(s)
	if got, want := Depth(s), depthExpected(text); got != want {
		t.Fatalf("Depth(%q) = %d, want %d", s, got, want)
	}
	if got, want := Plain(s), plainExpected(text); got != want {
		t.Fatalf("Plain(%q) = %t", s, got)
	}
	if got, want := Lay(s), layExpected(text); string(got) != want {
		t.Fatalf("Lay(%q) = %q, want %q", s, got, want)
	}
	checkWayBack(t, s, "", ";", " a", `"a"`, "(a)", "\x00", "\x80")
}

// checkAt holds what the calls answer at one place against what is expected.
func checkAt(t *testing.T, s []byte, at int) {
	t.Helper()
	text := string(s)
	if got, want := Gap(s, at), gapExpected(text, at); got != want {
		t.Fatalf("Gap(%q, %d) = %d, want %d", s, at, got, want)
	}
	token, to, err := Token(s, at)
	if want, wantTo, wantErr := tokenExpected(text, at); string(token) != want || to != wantTo || err != wantErr {
		t.Fatalf("Token(%q, %d) = %q, %d, %d, want %q, %d, %d", s, at, token, to, err, want, wantTo, wantErr)
	}
	value, to, err := Value(s, at)
	if want, wantTo, wantErr := valueExpected(text, at); string(value) != want || to != wantTo || err != wantErr {
		t.Fatalf("Value(%q, %d) = %q, %d, %d, want %q, %d, %d", s, at, value, to, err, want, wantTo, wantErr)
	}
	signs := []byte(";a(")
	if behind := behindGap(text[within(text, at):]); behind != "" {
		signs = append(signs, behind[0], behind[0]+1)
	}
	for _, c := range signs {
		to, ok := Skip(s, at, c)
		if want, wantOK := skipExpected(text, at, c); to != want || ok != wantOK {
			t.Fatalf("Skip(%q, %d, %q) = %d, %t, want %d, %t", s, at, c, to, ok, want, wantOK)
		}
	}
}

// checkWayBack looks whether what is laid is a value that is the same again, with each of these behind it: P28.3.
func checkWayBack(t *testing.T, s []byte, behind ...string) {
	t.Helper()
	laid := Lay(s)
	for _, x := range behind {
		got, to, err := Value(slices.Concat(laid, []byte(x)), 0)
		if string(got) != string(s) || to != len(laid) || err != api.OK {
			t.Fatalf("%q is laid as %q and, with %q behind, is %q up to %d, %d", s, laid, x, got, to, err)
		}
		got, to, err = Value(slices.Concat([]byte("a="), laid, []byte(x)), 2)
		if string(got) != string(s) || to != 2+len(laid) || err != api.OK {
			t.Fatalf("%q is laid as %q and, with %q behind and octets ahead, is %q up to %d, %d", s, laid, x, got, to, err)
		}
	}
}

// every hands on all lists of these elements of so many of them.
func every[E any](of []E, many int, do func(s []E)) {
	s := make([]E, many)
	var from func(at int)
	from = func(at int) {
		if at == many {
			do(s)
			return
		}
		for _, c := range of {
			s[at] = c
			from(at + 1)
		}
	}
	from(0)
}

// allOctets are those from 0 to 255.
func allOctets() []byte {
	var s []byte
	for c := range 256 {
		s = append(s, byte(c))
	}
	return s
}

// someOf is a row of so many of these elements that has no short period.
func someOf[E any](of []E, many int) []E {
	s := make([]E, many)
	x := uint32(many) + 1
	for i := range s {
		x = x*1664525 + 1013904223
		s[i] = of[int(x>>16)%len(of)]
	}
	return s
}

// farPlaces are numbers about the ends of their type, and about the limits of short lists.
func farPlaces(s string) []int {
	return []int{math.MinInt, math.MinInt + 1, math.MinInt32, -len(s) - 1, -len(s), -2, -1, 0, len(s), len(s) + 1, len(s) + 2, math.MaxInt32, math.MaxInt - 1, math.MaxInt}
}

// P28.1

func TestGapCases(t *testing.T) {
	cases := []struct {
		s    string
		at   int
		want int
	}{
		{" (a (b)) c", 0, 9},
		{"", 0, 0}, {"a", 0, 0}, {"a", 1, 1}, {" ", 0, 1}, {" a", 0, 1}, {" a", 1, 1}, {"a b", 1, 2}, {"\t \r\n a", 0, 5}, {"\n\r\ra", 0, 3}, {" \t\r\n", 0, 4}, {" \t\r\n", 2, 4},
		// No other control is a gap, nor is an octet above those of ASCII.
		{"\x00", 0, 0}, {"\x0Ba", 0, 0}, {"\x0Ca", 0, 0}, {"\x7Fa", 0, 0}, {" \xA0a", 0, 1}, {" \x85a", 0, 1},
		// Comments, alone, in a row, and in each other.
		{"()", 0, 2}, {"(a)b", 0, 3}, {"()()a", 0, 4}, {"(a) (b)\r\n(c)d", 0, 12}, {"(())a", 0, 4}, {"((a)(b(c)))d", 0, 11}, {"(a\r\nb)c", 0, 6}, {"(\x00\x80\xFF)a", 0, 5},
		// A `)` alone ends none, and a `"` in a comment takes nothing.
		{")a", 0, 0}, {" )a", 0, 1}, {"())a", 0, 2}, {"(a)) b", 0, 3}, {`(")")`, 0, 3}, {`"(a)"`, 0, 0}, {`("a)" b`, 0, 4},
		// A `\` takes the octet behind it, in comments alone.
		{`(\)) a`, 0, 5}, {`(\() a`, 0, 5}, {`(\\) a`, 0, 5}, {`(\\\)) a`, 0, 7}, {`(a\) b) c`, 0, 8}, {`(\a)b`, 0, 4}, {"(\\\r\n)b", 0, 5}, {`((\)))a`, 0, 6}, {`\ a`, 0, 0}, {` \(a)`, 0, 1}, {`()\)`, 0, 2},
		// A comment that does not end is one up to the end.
		{"(", 0, 1}, {" (a", 0, 3}, {"((a)", 0, 4}, {"(a(b) c ", 0, 8}, {`(\)`, 0, 3}, {`(a\`, 0, 3}, {`(\`, 0, 2}, {`(a\\`, 0, 4}, {`(()\)`, 0, 5},
		// A comment counts from its `(` on, so that a place in one is in none.
		{"(a b) c", 1, 1}, {"(a b) c", 2, 3}, {"(a b) c", 4, 4}, {"(a b) c", 5, 6}, {"((a) b) c", 1, 5}, {"((a) b) c", 6, 6}, {`(\(a) b`, 2, 6}, {`(\(a) b`, 1, 1}, {`(a( b`, 2, 5}, {`(a( b`, 3, 4},
		// Places that are none.
		{" a", -1, 1}, {"(a)b", -9, 3}, {"a", -1, 0}, {"a ", 2, 2}, {"a ", 3, 2}, {"a (", 99, 3}, {"", -1, 0}, {"", 1, 0}, {" a", math.MinInt, 1}, {" a", math.MaxInt, 2},
	}
	for _, x := range cases {
		if got := Gap([]byte(x.s), x.at); got != x.want {
			t.Errorf("Gap(%q, %d) = %d, want %d", x.s, x.at, got, x.want)
		}
		check(t, []byte(x.s))
	}
}

// Which octets are a gap by themselves, and which end one.
func TestEveryOctetInAGap(t *testing.T) {
	for _, c := range allOctets() {
		want := 1
		switch c {
		case 32, 9, 13, 10:
			want = 3
		case '(':
			want = 4
		}
		if got := Gap([]byte{' ', c, ' ', 'a'}, 0); got != want {
			t.Errorf("Gap of a blank, %d and a blank = %d, want %d", c, got, want)
		}
		want = 3
		switch c {
		case '(', '\\':
			want = 4
		case ')':
			want = 2
		}
		if got := Gap([]byte{'(', c, ')', 'a'}, 0); got != want {
			t.Errorf("Gap of a comment of %d = %d, want %d", c, got, want)
		}
		if got := Gap([]byte{'(', '\\', c, ')', 'a'}, 0); got != 4 {
			t.Errorf("Gap of a comment of a slash and %d = %d", c, got)
		}
	}
}

func TestSkipCases(t *testing.T) {
	cases := []struct {
		s    string
		at   int
		c    byte
		want int
		ok   bool
	}{
		{"=", 0, '=', 1, true}, {" = b", 0, '=', 2, true}, {"a (b) = c", 1, '=', 7, true}, {"a (=) ; b", 1, '=', 1, false}, {"a (=) ; b", 1, ';', 7, true}, {"(a))b", 0, ')', 4, true}, {"==", 0, '=', 1, true}, {"==", 1, '=', 2, true},
		// Another octet, or none: the place is what it was.
		{"a", 0, '=', 0, false}, {"  a=", 0, '=', 0, false}, {"  a=", 1, '=', 1, false}, {"  ", 0, '=', 0, false}, {"  ", 1, '=', 1, false}, {"  ", 2, '=', 2, false}, {"(=", 0, '=', 0, false}, {"a=(", 2, '=', 2, false}, {"", 0, '=', 0, false}, {"", 0, 0, 0, false}, {" \x00", 0, 0, 2, true},
		// What is a gap stands behind none.
		{"  ", 0, ' ', 0, false}, {"\ta", 0, '\t', 0, false}, {"\r\n", 0, '\r', 0, false}, {"\r\n", 0, '\n', 0, false}, {"(a", 0, '(', 0, false}, {"()", 0, ')', 0, false}, {"()", 1, ')', 2, true}, {`(\`, 0, '\\', 0, false}, {` \`, 0, '\\', 2, true},
		// Places that are none.
		{" =", -1, '=', 2, true}, {" =", math.MinInt, '=', 2, true}, {" a", -1, '=', 0, false}, {" a", math.MinInt, '=', 0, false}, {"a=", 3, '=', 2, false}, {"a=", math.MaxInt, '=', 2, false}, {"", -1, '=', 0, false}, {"", 1, '=', 0, false},
	}
	for _, x := range cases {
		if got, ok := Skip([]byte(x.s), x.at, x.c); got != x.want || ok != x.ok {
			t.Errorf("Skip(%q, %d, %q) = %d, %t, want %d, %t", x.s, x.at, x.c, got, ok, x.want, x.ok)
		}
		check(t, []byte(x.s))
	}
}

// Each octet is gone over where it stands itself, if it is no gap, and no other one is.
func TestEveryOctetSkipped(t *testing.T) {
	for _, stands := range allOctets() {
		s := []byte{'a', ' ', stands, 'b'}
		for _, c := range allOctets() {
			to, ok := Skip(s, 1, c)
			if want, wantOK := skipExpected(string(s), 1, c); to != want || ok != wantOK {
				t.Fatalf("Skip(%q, 1, %q) = %d, %t, want %d, %t", s, c, to, ok, want, wantOK)
			}
		}
	}
}

func TestDepthCases(t *testing.T) {
	cases := []struct {
		s    string
		want int
	}{
		{"", 0}, {"a", 0}, {")", 0}, {" (a)", 0}, {`\(a)`, 0}, {`"(a)"`, 0}, {"a(b)", 0}, {"\x00(", 0},
		{"()", 1}, {"(a)", 1}, {"(a", 1}, {"(", 1}, {"(a (b)) c", 2}, {"((a))", 2}, {"((", 2}, {"(()", 2}, {"(((", 3}, {"((()))", 3}, {"(a(b)c(d(e)f)g)", 3}, {"((a)(b)(c))", 2}, {"((a(b))c(d))", 3}, {"(a(b", 2},
		// What stands behind the first one's end plays no part.
		{"()(())", 1}, {"(a) ((b))", 1}, {"(a)(b(c(d", 1}, {"())((", 1}, {"((a))(((b)))", 2},
		// What a `\` takes neither opens nor closes.
		{`(\()`, 1}, {`(\(\(`, 1}, {`(\)(a))`, 2}, {`(\\(a))`, 2}, {`(\`, 1}, {`((\`, 2}, {`(a\)(b`, 2}, {`((\))(c))`, 2}, {`("(")`, 2},
		{strings.Repeat("(", 300) + strings.Repeat(")", 300), 300}, {strings.Repeat("(", 300), 300}, {strings.Repeat("()", 300), 1}, {"(" + strings.Repeat("()", 300), 2},
	}
	for _, x := range cases {
		if got := Depth([]byte(x.s)); got != x.want {
			t.Errorf("Depth(%q) = %d, want %d", x.s, got, x.want)
		}
		check(t, []byte(x.s))
	}
}

// P28.2

func TestTokenCases(t *testing.T) {
	cases := []struct {
		s    string
		at   int
		want string
		to   int
		err  api.Errno
	}{
		{"a", 0, "a", 1, api.OK}, {"text/plain", 0, "text", 4, api.OK}, {"text/plain", 5, "plain", 10, api.OK}, {"text/plain", 2, "xt", 4, api.OK}, {"a b", 0, "a", 1, api.OK}, {"a\r\n", 0, "a", 1, api.OK}, {"a(b)", 0, "a", 1, api.OK}, {"a*0*=b", 0, "a*0*", 4, api.OK}, {"x%41'y", 0, "x%41'y", 6, api.OK}, {"a\x80", 0, "a", 1, api.OK}, {"a\x00", 0, "a", 1, api.OK}, {"1.0;", 0, "1.0", 3, api.OK}, {tokens, 0, tokens, len(tokens), api.OK}, {"a\x7F", 0, "a", 1, api.OK},
		// No token's octet; a gap is gone over by none but Gap.
		{" a", 0, "", 0, api.ErrForm}, {"(a)b", 0, "", 0, api.ErrForm}, {"\r\na", 0, "", 0, api.ErrForm}, {`"a"`, 0, "", 0, api.ErrForm}, {"=a", 0, "", 0, api.ErrForm}, {"a=", 1, "", 0, api.ErrForm}, {"\x80", 0, "", 0, api.ErrForm}, {"\x00", 0, "", 0, api.ErrForm}, {"\x7F", 0, "", 0, api.ErrForm}, {`\a`, 0, "", 0, api.ErrForm},
		// The end.
		{"", 0, "", 0, api.ErrEnd}, {"a", 1, "", 0, api.ErrEnd}, {" ", 1, "", 0, api.ErrEnd}, {"=", 1, "", 0, api.ErrEnd},
		// Places that are none.
		{"ab=", -1, "ab", 2, api.OK}, {"ab=", math.MinInt, "ab", 2, api.OK}, {"=ab", -1, "", 0, api.ErrForm}, {"ab", 3, "", 0, api.ErrEnd}, {"ab", math.MaxInt, "", 0, api.ErrEnd}, {"", -1, "", 0, api.ErrEnd}, {"", 1, "", 0, api.ErrEnd},
	}
	for _, x := range cases {
		got, to, err := Token([]byte(x.s), x.at)
		if string(got) != x.want || to != x.to || err != x.err || err != api.OK && got != nil {
			t.Errorf("Token(%q, %d) = %q, %d, %d, want %q, %d, %d", x.s, x.at, got, to, err, x.want, x.to, x.err)
		}
		check(t, []byte(x.s))
	}
}

func TestValueCases(t *testing.T) {
	cases := []struct {
		s    string
		at   int
		want string
		to   int
		err  api.Errno
	}{
		// Tokens.
		{"a", 0, "a", 1, api.OK}, {"a=b;", 2, "b", 3, api.OK}, {`a"b"`, 0, "a", 1, api.OK}, {"a(b)", 0, "a", 1, api.OK},
		// Quoted texts.
		{`"a b"`, 0, "a b", 5, api.OK}, {`a="b;c"; d`, 2, "b;c", 7, api.OK}, {`""`, 0, "", 2, api.OK}, {`a=""`, 2, "", 4, api.OK}, {`"a\"b"`, 0, `a"b`, 6, api.OK}, {`"\\" "`, 0, `\`, 4, api.OK}, {`"a""b"`, 0, "a", 3, api.OK}, {`"a""b"`, 3, "b", 6, api.OK}, {`"(a)"`, 0, "(a)", 5, api.OK}, {"\"\r\n\x00\x80\"", 0, "\r\n\x00\x80", 6, api.OK}, {`"a"b`, 2, "", 0, api.ErrEnd}, {`x"\a"`, 1, "a", 5, api.OK},
		// Neither.
		{" a", 0, "", 0, api.ErrForm}, {` "a"`, 0, "", 0, api.ErrForm}, {`(a)"b"`, 0, "", 0, api.ErrForm}, {"=", 0, "", 0, api.ErrForm}, {`\"a"`, 0, "", 0, api.ErrForm}, {"\x80", 0, "", 0, api.ErrForm}, {"\r", 0, "", 0, api.ErrForm},
		// Ends: of octets, and of a quoted text that has none.
		{"", 0, "", 0, api.ErrEnd}, {"a", 1, "", 0, api.ErrEnd}, {`"`, 0, "", 0, api.ErrEnd}, {`"a`, 0, "", 0, api.ErrEnd}, {`"a\"`, 0, "", 0, api.ErrEnd}, {`"\`, 0, "", 0, api.ErrEnd}, {`a="b`, 2, "", 0, api.ErrEnd}, {`"a"`, 3, "", 0, api.ErrEnd},
		// Places that are none.
		{`"a"b`, -1, "a", 3, api.OK}, {"a;", math.MinInt, "a", 1, api.OK}, {";", -1, "", 0, api.ErrForm}, {`"a`, -1, "", 0, api.ErrEnd}, {`"a"`, 4, "", 0, api.ErrEnd}, {`"a"`, math.MaxInt, "", 0, api.ErrEnd}, {"", -1, "", 0, api.ErrEnd}, {"", 1, "", 0, api.ErrEnd},
	}
	for _, x := range cases {
		got, to, err := Value([]byte(x.s), x.at)
		if string(got) != x.want || to != x.to || err != x.err || err != api.OK && got != nil {
			t.Errorf("Value(%q, %d) = %q, %d, %d, want %q, %d, %d", x.s, x.at, got, to, err, x.want, x.to, x.err)
		}
		check(t, []byte(x.s))
	}
}

func TestPlainAndLayCases(t *testing.T) {
	cases := []struct {
		s, laid string
		plain   bool
	}{
		{"a", "a", true}, {"utf-8", "utf-8", true}, {"a*'%", "a*'%", true}, {tokens, tokens, true}, {"0", "0", true}, {".", ".", true},
		{"", `""`, false}, {" ", `" "`, false}, {"a b", `"a b"`, false}, {"a ", `"a "`, false}, {" a", `" a"`, false}, {"a;", `"a;"`, false}, {"a/b", `"a/b"`, false}, {"=", `"="`, false}, {"(a)", `"(a)"`, false}, {`"`, `"\""`, false}, {`\`, `"\\"`, false}, {`"a"`, `"\"a\""`, false}, {`a\`, `"a\\"`, false},
		{"\x00", "\"\x00\"", false}, {"\r\n", "\"\r\n\"", false}, {"a\x7F", "\"a\x7F\"", false}, {"\x80", "\"\x80\"", false}, {"a\xFF", "\"a\xFF\"", false}, {"\xC3\xA9", "\"\xC3\xA9\"", false},
	}
	for _, x := range cases {
		if got := Plain([]byte(x.s)); got != x.plain {
			t.Errorf("Plain(%q) = %t", x.s, got)
		}
		if got := Lay([]byte(x.s)); string(got) != x.laid {
			t.Errorf("Lay(%q) = %q, want %q", x.s, got, x.laid)
		}
		check(t, []byte(x.s))
	}
}

// Which octets are of tokens, alone and beside others.
func TestEveryOctetOfTokens(t *testing.T) {
	for _, c := range allOctets() {
		want := isToken(c)
		for _, s := range [][]byte{{c}, {c, 'a'}, {'a', c}, {'a', c, 'b'}} {
			if got := Plain(s); got != want {
				t.Errorf("Plain(%q) = %t", s, got)
			}
		}
		if _, to, err := Token([]byte{c, 'a'}, 0); want != (to == 2 && err == api.OK) || !want && err != api.ErrForm {
			t.Errorf("Token of %d tells %d, %d", c, to, err)
		}
		if _, to, _ := Token([]byte{'a', c, 'b'}, 0); want != (to == 3) || to < 1 {
			t.Errorf("Token of an octet and %d ends at %d", c, to)
		}
	}
}

// P28.3

// Whatever octet stands behind, but a token's: of a quoted text those, too.
func TestEveryOctetBehind(t *testing.T) {
	for _, text := range []string{"a", "utf-8", tokens, "", "a b", `"`, `\`, `\"`, "\x00\xFF", `a\`} {
		s := []byte(text)
		for _, c := range allOctets() {
			if !isToken(c) || !plainExpected(text) {
				checkWayBack(t, s, string([]byte{c}), string([]byte{c, 'a'}), string([]byte{c, '"'}), string([]byte{c, '\\', '"'}))
			}
		}
	}
}

// The library reads what is laid of printable octets, too.
func TestLibraryReadsWhatIsLaid(t *testing.T) {
	printable := allOctets()[32:127]
	one := func(s []byte) {
		laid := string(Lay(s))
		_, pairs, err := mime.ParseMediaType("a/b; c=" + laid + "; d=e")
		if err != nil || pairs["c"] != string(s) || pairs["d"] != "e" {
			t.Fatalf("%q is laid as %q, and the library reads %q, %v", s, laid, pairs, err)
		}
	}
	every(printable, 1, one)
	every(printable, 2, one)
	every([]byte(`"\a ;`), 5, one)
	for many := 1; many < 200; many++ {
		one(someOf(printable, many))
	}
}

// P28.1 to P28.3: check asks all of it of whatever it is handed.

func TestEveryTwoOctets(t *testing.T) {
	for many := range 3 {
		every(allOctets(), many, func(s []byte) { check(t, s) })
	}
	every(octetEdges, 3, func(s []byte) { check(t, s) })
}

// Each octet put in, and in the place of another one.
func TestEveryOctetAtEachPlace(t *testing.T) {
	for _, s := range []string{" (a (b)) c", `a = "b\"c" ; d`, `(\)(a\\)) x`} {
		for at := range len(s) + 1 {
			for _, c := range allOctets() {
				check(t, []byte(s[:at]+string([]byte{c})+s[at:]))
				if at < len(s) {
					check(t, []byte(s[:at]+string([]byte{c})+s[at+1:]))
				}
			}
			check(t, []byte(s[:at]))
			check(t, []byte(s[at:]))
		}
	}
}

func TestEveryShortList(t *testing.T) {
	for many := range 7 {
		every([]byte(`()\ a`), many, func(s []byte) { check(t, s) })
	}
	for many := range 6 {
		every([]byte("\"\\a;(\xFF"), many, func(s []byte) { check(t, s) })
	}
	for many := range 11 {
		every([]byte(`()\`), many, func(s []byte) {
			text := "(" + string(s)
			if got, want := Gap([]byte(text), 0), gapExpected(text, 0); got != want {
				t.Fatalf("Gap(%q, 0) = %d, want %d", text, got, want)
			}
			if got, want := Depth([]byte(text)), depthExpected(text); got != want {
				t.Fatalf("Depth(%q) = %d, want %d", text, got, want)
			}
		})
	}
}

func TestLongerLists(t *testing.T) {
	for _, of := range []string{"()", "(()", "()) ", `(\)`, `(\) `, " \t\r\n", "a", "a b", `"\a`, `"a `, tokens, string(octetEdges), string(allOctets())} {
		for many := range 120 {
			check(t, someOf([]byte(of), many))
		}
	}
	pieces := []string{"(", ")", "(a)", `\`, `"`, `"a b"`, " ", "\r\n ", "text", ";", "="}
	for many := range 60 {
		check(t, []byte(strings.Join(someOf(pieces, many), "")))
	}
}

// Places from one end of their type to the other one.
func TestFarPlaces(t *testing.T) {
	for _, s := range []string{"", "a", " ", "(", "=", `"`, `"a"`, " (a) = b", "ab=c", "a b", "((a", "\x80", "\\"} {
		for _, at := range farPlaces(s) {
			checkAt(t, []byte(s), at)
		}
	}
}

// Very many octets, and very deep comments, are gone through in a time that grows with them.
func TestVeryLongLists(t *testing.T) {
	many := 1 << 20
	cases := []struct {
		s     string
		gap   int
		depth int
	}{
		{strings.Repeat("(", many), many, many},
		{strings.Repeat("(", many) + strings.Repeat(")", many) + "a", 2 * many, many},
		{"(" + strings.Repeat("(a)", many) + ") (", 3*many + 4, 2},
		{strings.Repeat("(a)", many) + "b", 3 * many, 1},
		{"(" + strings.Repeat(`\(`, many), 2*many + 1, 1},
		{strings.Repeat(" ", many) + "(", many + 1, 0},
		{strings.Repeat(")", many), 0, 0},
	}
	for _, x := range cases {
		s := []byte(x.s)
		to, ok := Skip(s, 0, 'x')
		told := fmt.Sprint(Gap(s, 0), Depth(s), Plain(s), to, ok)
		if want := fmt.Sprint(x.gap, x.depth, false, 0, false); told != want {
			t.Errorf("of %.9q and more is told %s, want %s", x.s, told, want)
		}
	}
	token := slices.Repeat([]byte("a"), many)
	if got, to, err := Value(slices.Concat(token, []byte(";")), 0); len(got) != many || to != many || err != api.OK || !Plain(token) {
		t.Errorf("of a long token is told %d octets, %d, %d", len(got), to, err)
	}
	quotes := slices.Repeat([]byte(`"`), many)
	if got, to, err := Value(Lay(quotes), 0); string(got) != string(quotes) || to != 2*many+2 || err != api.OK {
		t.Errorf("of a long quoted text is told %d octets, %d, %d", len(got), to, err)
	}
}
