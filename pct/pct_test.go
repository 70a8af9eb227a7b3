package pct

import (
	"bytes"
	"fmt"
	"mime"
	"net/url"
	"regexp"
	"slices"
	"strconv"
	"strings"
	"testing"

	"sheave/api"
)

// stay are the octets that a code leaves as they are.
const stay = "ABCDEFGHIJKLMNOPQRSTUVWXYZabcdefghijklmnopqrstuvwxyz0123456789!#$&+-.^_`{|}~"

// The words of the document as patterns, over octets.
var (
	oneEscape   = regexp.MustCompile(`%[0-9A-Fa-f][0-9A-Fa-f]`)
	rightCode   = regexp.MustCompile("^([A-Za-z0-9!#$&+.^_`{|}~-]|%[0-9A-Fa-f][0-9A-Fa-f])*$")
	firstQuoted = regexp.MustCompile(`(?s)^"((?:[^"\\]|\\.)*)"`)
	oneTaken    = regexp.MustCompile(`(?s)\\(.)`)
)

// answers are what the calls tell of a list.
type answers struct {
	laid     string
	read     string
	err      api.Errno
	strange  int
	quoted   string
	unquoted string
	end      int
	endErr   api.Errno
}

func (a answers) String() string {
	return fmt.Sprintf("laid %q, read %q, %d, %d strange, quoted %q, unquoted %q up to %d, %d",
		a.laid, a.read, a.err, a.strange, a.quoted, a.unquoted, a.end, a.endErr)
}

// told is what the calls answer of a list.
func told(s []byte) answers {
	unquoted, end, err := Unquote(s)
	return answers{string(Lay(s)), string(Read(s)), Check(s), Strange(s), string(Quote(s)), string(unquoted), end, err}
}

// expectedOne is what an octet is expected to be laid as.
func expectedOne(c byte) string {
	if strings.IndexByte(stay, c) >= 0 {
		return string([]byte{c})
	}
	return fmt.Sprintf("%%%02X", c)
}

// expectedRead is what octets are expected to be read as.
func expectedRead(s string) string {
	return oneEscape.ReplaceAllStringFunc(s, func(escape string) string {
		n, err := strconv.ParseUint(escape[1:], 16, 8)
		if err != nil {
			panic(err)
		}
		return string([]byte{byte(n)})
	})
}

// expected is what is expected of a list.
func expected(s []byte) answers {
	out := answers{
		read:    expectedRead(string(s)),
		err:     api.ErrForm,
		strange: bytes.Count(s, []byte("%")) - len(oneEscape.FindAll(s, -1)),
		quoted:  `"` + strings.NewReplacer(`"`, `\"`, `\`, `\\`).Replace(string(s)) + `"`,
		endErr:  api.ErrForm,
	}
	for _, c := range s {
		out.laid += expectedOne(c)
	}
	if rightCode.Match(s) {
		out.err = api.OK
	}
	if found := firstQuoted.FindSubmatch(s); found != nil {
		out.unquoted, out.end, out.endErr = oneTaken.ReplaceAllString(string(found[1]), "$1"), len(found[0]), api.OK
	} else if bytes.HasPrefix(s, []byte(`"`)) {
		out.endErr = api.ErrEnd
	}
	return out
}

// check holds what the calls answer against what is expected, and what follows.
func check(t *testing.T, s []byte) {
	t.Helper()
	got, want := told(s), expected(s)
	if got != want {
		t.Fatalf("of %q is told %v, want %v", s, got, want)
	}
	if len(got.read) > len(s) || len(got.unquoted) > len(s) {
		t.Fatalf("%q is read as %q, or unquoted as %q, which is longer", s, got.read, got.unquoted)
	}
	checkWayBack(t, s, "")
}

// checkWayBack looks whether what is laid is read, and right, and what is quoted is unquoted, with this behind.
func checkWayBack(t *testing.T, s []byte, behind string) {
	t.Helper()
	laid := Lay(s)
	if got := Read(laid); !bytes.Equal(got, s) {
		t.Fatalf("%q is laid as %q and read as %q", s, laid, got)
	}
	if err, many := Check(laid), Strange(laid); err != api.OK || many != 0 {
		t.Fatalf("%q is laid as %q, of which Check tells %d, and %d are strange", s, laid, err, many)
	}
	quoted := Quote(s)
	got, end, err := Unquote(slices.Concat(quoted, []byte(behind)))
	if !bytes.Equal(got, s) || end != len(quoted) || err != api.OK {
		t.Fatalf("%q is quoted as %q and, with %q behind, unquoted as %q up to %d, %d", s, quoted, behind, got, end, err)
	}
}

// every hands on all lists of these octets of so many elements.
func every(of []byte, many int, do func(s []byte)) {
	s := make([]byte, many)
	var from func(at int)
	from = func(at int) {
		if at == many {
			do(s)
			return
		}
		for _, c := range of {
			s[at] = c
			from(at + 1)
		}
	}
	from(0)
}

func allOctets() []byte {
	s := make([]byte, 256)
	for c := range s {
		s[c] = byte(c)
	}
	return s
}

// someOctets is a row of so many of these octets that has no short period.
func someOctets(of []byte, many int) []byte {
	s := make([]byte, many)
	x := uint32(many) + 1
	for i := range s {
		x = x*1664525 + 1013904223
		s[i] = of[int(x>>16)%len(of)]
	}
	return s
}

// roomSigns fill the room behind a list, so that an escape, or a quoted text, would go on there.
const roomSigns = `41"`

// roomy is a list with room behind its end.
func roomy(s []byte) []byte {
	whole := slices.Concat(s, bytes.Repeat([]byte(roomSigns), 8))
	return whole[:len(s)]
}

// untouched tells whether such a list and its room are as they were.
func untouched(s, as []byte) bool {
	room := s[len(s) : len(s)+8*len(roomSigns)]
	return bytes.Equal(s, as) && string(room) == strings.Repeat(roomSigns, 8)
}

// writeOver fills a list to its capacity, so that memory that is shared shows.
func writeOver(s []byte) {
	s = s[:cap(s)]
	for i := range s {
		s[i] = 'X'
	}
}

// P21.1

func TestLayCases(t *testing.T) {
	cases := []struct{ s, want string }{
		{"a b", "a%20b"},
		{"", ""}, {"a", "a"}, {" ", "%20"}, {"  ", "%20%20"}, {"azAZ09", "azAZ09"}, {"!#$&+-.^_`{|}~", "!#$&+-.^_`{|}~"},
		// A token's that are no attribute's.
		{"*", "%2A"}, {"'", "%27"}, {"%", "%25"}, {"*'%", "%2A%27%25"}, {"%41", "%2541"}, {"utf-8''x", "utf-8%27%27x"}, {"%%", "%25%25"},
		// Specials.
		{"()<>@,;:", "%28%29%3C%3E%40%2C%3B%3A"}, {"\\\"/[]?=", "%5C%22%2F%5B%5D%3F%3D"}, {"a=b; c", "a%3Db%3B%20c"},
		// Controls, and octets above those of ASCII.
		{"\t", "%09"}, {"\r\n", "%0D%0A"}, {"\x00\x1F\x7F", "%00%1F%7F"}, {"\x80\xA0\xFF", "%80%A0%FF"}, {"\xE9", "%E9"}, {"\xC3\xA9", "%C3%A9"}, {"\xE2\x82\xAC", "%E2%82%AC"},
	}
	for _, x := range cases {
		if got := Lay([]byte(x.s)); string(got) != x.want {
			t.Errorf("Lay(%q) = %q, want %q", x.s, got, x.want)
		}
		check(t, []byte(x.s))
	}
}

func TestEveryOctetLaid(t *testing.T) {
	short := 0
	for _, c := range allOctets() {
		want := expectedOne(c)
		if got := Lay([]byte{c}); string(got) != want {
			t.Errorf("Lay of %d = %q, want %q", c, got, want)
		}
		if got := One(c); got != len(want) {
			t.Errorf("One(%d) = %d, want %d", c, got, len(want))
		}
		if One(c) == 1 {
			short++
		}
	}
	if want := 94 - 15 - 3; short != want {
		t.Errorf("%d octets are laid as themselves, want %d", short, want)
	}
}

// What is laid of a list is what is laid of its octets, one behind the other.
func TestLayIsOctetByOctet(t *testing.T) {
	for many := range 400 {
		s := someOctets(allOctets(), many)
		var want []byte
		length := 0
		for _, c := range s {
			want = append(want, Lay([]byte{c})...)
			length += One(c)
		}
		if got := Lay(s); !bytes.Equal(got, want) || len(got) != length {
			t.Fatalf("Lay(%q) = %q, want %q, of %d", s, got, want, length)
		}
	}
}

func TestReadCases(t *testing.T) {
	cases := []struct {
		s, want string
		err     api.Errno
		strange int
	}{
		{"", "", api.OK, 0}, {"a", "a", api.OK, 0}, {"a%20b", "a b", api.OK, 0}, {"!#$&+-.^_`{|}~", "!#$&+-.^_`{|}~", api.OK, 0},
		// Escapes, of capitals or not, and of what needs none.
		{"%3D", "=", api.OK, 0}, {"%3d", "=", api.OK, 0}, {"%aF%Af%af%AF", "\xAF\xAF\xAF\xAF", api.OK, 0}, {"%00%7f%80%ff", "\x00\x7F\x80\xFF", api.OK, 0}, {"%C3%A9", "\xC3\xA9", api.OK, 0}, {"%41", "A", api.OK, 0}, {"a%62c", "abc", api.OK, 0}, {"%0D%0A", "\r\n", api.OK, 0}, {"%411", "A1", api.OK, 0},
		// What an escape makes is read no more, and is not strange.
		{"%25", "%", api.OK, 0}, {"%2541", "%41", api.OK, 0}, {"%25%34%31", "%41", api.OK, 0}, {"%25%25", "%%", api.OK, 0}, {"%2525", "%25", api.OK, 0}, {"%2", "%2", api.ErrForm, 1}, {"%25%", "%%", api.ErrForm, 1},
		// None of an escape.
		{"%", "%", api.ErrForm, 1}, {"%%", "%%", api.ErrForm, 2}, {"%%%", "%%%", api.ErrForm, 3}, {"a%", "a%", api.ErrForm, 1}, {"a%4", "a%4", api.ErrForm, 1}, {"%zz", "%zz", api.ErrForm, 1}, {"%3g", "%3g", api.ErrForm, 1}, {"%g3", "%g3", api.ErrForm, 1}, {"%G0", "%G0", api.ErrForm, 1}, {"%/0%:0%@0%`0", "%/0%:0%@0%`0", api.ErrForm, 4}, {"%0/%0:%0@%0`", "%0/%0:%0@%0`", api.ErrForm, 4}, {"%+1", "%+1", api.ErrForm, 1}, {"%0x1", "%0x1", api.ErrForm, 1}, {"% 41", "% 41", api.ErrForm, 1},
		{"%%41", "%A", api.ErrForm, 1}, {"%%%41", "%%A", api.ErrForm, 2}, {"%4%41", "%4A", api.ErrForm, 1}, {"%41%", "A%", api.ErrForm, 1}, {"%41%4", "A%4", api.ErrForm, 1}, {"%41%zz%42%", "A%zzB%", api.ErrForm, 2}, {"%a%b%c", "%a%b%c", api.ErrForm, 3}, {"%a%bc", "%a\xBC", api.ErrForm, 1},
		// Right is no octet but an attribute's; what is wrong stays all the same.
		{"*", "*", api.ErrForm, 0}, {"'", "'", api.ErrForm, 0}, {"a''b", "a''b", api.ErrForm, 0}, {" ", " ", api.ErrForm, 0}, {"\t", "\t", api.ErrForm, 0}, {"a\r\n", "a\r\n", api.ErrForm, 0}, {"a b", "a b", api.ErrForm, 0}, {"=3D", "=3D", api.ErrForm, 0}, {"/", "/", api.ErrForm, 0}, {"\"a\"", "\"a\"", api.ErrForm, 0}, {"\x00", "\x00", api.ErrForm, 0}, {"\x7F", "\x7F", api.ErrForm, 0}, {"\x80\xFF", "\x80\xFF", api.ErrForm, 0}, {"\xC3\xA9", "\xC3\xA9", api.ErrForm, 0}, {"%41 ", "A ", api.ErrForm, 0}, {"a+b", "a+b", api.OK, 0},
	}
	for _, x := range cases {
		if got := Read([]byte(x.s)); string(got) != x.want {
			t.Errorf("Read(%q) = %q, want %q", x.s, got, x.want)
		}
		if got := Check([]byte(x.s)); got != x.err {
			t.Errorf("Check(%q) = %d, want %d", x.s, got, x.err)
		}
		if got := Strange([]byte(x.s)); got != x.strange {
			t.Errorf("Strange(%q) = %d, want %d", x.s, got, x.strange)
		}
		check(t, []byte(x.s))
	}
}

func TestEveryEscape(t *testing.T) {
	digits := "0123456789abcdef"
	right := 0
	every(allOctets(), 2, func(s []byte) {
		escape := "%" + string(s)
		high, low := strings.Index(digits, strings.ToLower(string(s[:1]))), strings.Index(digits, strings.ToLower(string(s[1:])))
		if high >= 0 && low >= 0 {
			right++
			want := "x" + string([]byte{byte(16*high + low)}) + "y"
			whole := []byte("x" + escape + "y")
			if got := Read(whole); string(got) != want || Check(whole) != api.OK || Strange(whole) != 0 {
				t.Fatalf("%q is read as %q, and Check tells %d", whole, got, Check(whole))
			}
		}
		for _, ahead := range []string{"", "%", "%4"} {
			check(t, []byte(ahead+escape+"%"))
		}
	})
	if right != 22*22 {
		t.Errorf("%d escapes are read, want %d", right, 22*22)
	}
}

// A fault is found wherever it stands, and each `%` counts.
func TestFaultsAtEachPlace(t *testing.T) {
	right := strings.Repeat("a~%3D%c3!", 20)
	if err := Check([]byte(right)); err != api.OK {
		t.Fatalf("Check(%q) = %d", right, err)
	}
	for at := range len(right) + 1 {
		for _, fault := range []string{"*", "'", "%", " ", "\"", "\x00", "\x7F", "\xFF"} {
			s := []byte(right[:at] + fault + right[at:])
			if err := Check(s); err != api.ErrForm {
				t.Fatalf("Check(%q) = %d", s, err)
			}
		}
	}
	for many := range 100 {
		s := []byte(strings.Repeat(right+"%", many))
		if got := Strange(s); got != many {
			t.Fatalf("Strange of %d strange ones = %d", many, got)
		}
	}
}

// P21.2

func TestQuoteCases(t *testing.T) {
	cases := []struct{ s, want string }{
		{``, `""`}, {`a`, `"a"`}, {`a b`, `"a b"`}, {`"`, `"\""`}, {`\`, `"\\"`}, {`\"`, `"\\\""`}, {`"\`, `"\"\\"`}, {`""`, `"\"\""`}, {`\\`, `"\\\\"`}, {`a"b\c`, `"a\"b\\c"`}, {`%41`, `"%41"`}, {`;=`, `";="`},
		{"\r\n\t", "\"\r\n\t\""}, {"\x00\x7F\x80\xFF", "\"\x00\x7F\x80\xFF\""}, {"\xC3\xA9", "\"\xC3\xA9\""},
	}
	for _, x := range cases {
		if got := Quote([]byte(x.s)); string(got) != x.want {
			t.Errorf("Quote(%q) = %q, want %q", x.s, got, x.want)
		}
		check(t, []byte(x.s))
	}
}

func TestUnquoteCases(t *testing.T) {
	cases := []struct {
		s, want string
		end     int
		err     api.Errno
	}{
		{`""`, ``, 2, api.OK}, {`"a"`, `a`, 3, api.OK}, {`"a b;"`, `a b;`, 6, api.OK},
		// What a `\` takes, which need not be one that has to be.
		{`"\""`, `"`, 4, api.OK}, {`"\\"`, `\`, 4, api.OK}, {`"\a\b"`, `ab`, 6, api.OK}, {`"\\\""`, `\"`, 6, api.OK}, {`"\\\\"`, `\\`, 6, api.OK}, {"\"\\\r\n\"", "\r\n", 5, api.OK}, {"\"\\\x00\\\xFF\"", "\x00\xFF", 6, api.OK}, {"\"\\\xC3\xA9\"", "\xC3\xA9", 5, api.OK}, {`"a\ b"`, `a b`, 6, api.OK},
		// The first `"` that none takes is the end, whatever stands behind.
		{`""x`, ``, 2, api.OK}, {`"""`, ``, 2, api.OK}, {`"a"b"`, `a`, 3, api.OK}, {`"\\"x"`, `\`, 4, api.OK}, {`"\\""`, `\`, 4, api.OK}, {`"\"" "`, `"`, 4, api.OK}, {`"a"\`, `a`, 3, api.OK}, {`"a" ; b="c"`, `a`, 3, api.OK},
		{"\"\r\n\"", "\r\n", 4, api.OK}, {"\"\x00\x80\"", "\x00\x80", 4, api.OK}, {`"%41"`, `%41`, 5, api.OK}, {`"(a)"`, `(a)`, 5, api.OK},
		// No end.
		{`"`, ``, 0, api.ErrEnd}, {`"a`, ``, 0, api.ErrEnd}, {`"\`, ``, 0, api.ErrEnd}, {`"\"`, ``, 0, api.ErrEnd}, {`"a\`, ``, 0, api.ErrEnd}, {`"a\"`, ``, 0, api.ErrEnd}, {`"\\`, ``, 0, api.ErrEnd}, {`"\\\`, ``, 0, api.ErrEnd}, {`"\\\"`, ``, 0, api.ErrEnd}, {`"a\"b`, ``, 0, api.ErrEnd}, {"\"\r\n", "", 0, api.ErrEnd},
		// No beginning, whatever else there is.
		{``, ``, 0, api.ErrForm}, {`a`, ``, 0, api.ErrForm}, {` "a"`, ``, 0, api.ErrForm}, {`a"b"`, ``, 0, api.ErrForm}, {`\"a"`, ``, 0, api.ErrForm}, {`\`, ``, 0, api.ErrForm}, {`'a'`, ``, 0, api.ErrForm}, {"\x00", ``, 0, api.ErrForm}, {`%22a%22`, ``, 0, api.ErrForm},
	}
	for _, x := range cases {
		got, end, err := Unquote([]byte(x.s))
		if string(got) != x.want || end != x.end || err != x.err {
			t.Errorf("Unquote(%q) = %q, %d, %d, want %q, %d, %d", x.s, got, end, err, x.want, x.end, x.err)
		}
		if err != api.OK && got != nil {
			t.Errorf("Unquote(%q) answers octets beside the error %d", x.s, err)
		}
		check(t, []byte(x.s))
	}
}

// What ends in one place has no end in any piece that ends ahead of it.
func TestUnquotePieces(t *testing.T) {
	for many := range 100 {
		s := slices.Concat(Quote(someOctets([]byte(`a"\ `), many)), []byte(`x"\`))
		_, end, err := Unquote(s)
		if err != api.OK {
			t.Fatalf("Unquote(%q) tells %d", s, err)
		}
		for to := range len(s) {
			want := api.ErrEnd
			switch {
			case to == 0:
				want = api.ErrForm
			case to >= end:
				want = api.OK
			}
			if _, _, err := Unquote(s[:to]); err != want {
				t.Fatalf("Unquote(%q) tells %d, want %d", s[:to], err, want)
			}
		}
	}
}

// P21.1 and P21.2

func TestEveryTwoOctets(t *testing.T) {
	for many := range 3 {
		every(allOctets(), many, func(s []byte) { check(t, s) })
	}
	every(allOctets(), 1, func(s []byte) {
		for _, around := range []string{`"|"`, `"|`, `"\|"`, `"\|`, `"a|b"c"`, `%41|%42`, `x|y`} {
			check(t, []byte(strings.Replace(around, "|", string(s), 1)))
		}
	})
}

func TestEveryShortList(t *testing.T) {
	for many := range 7 {
		every([]byte("%3d\"\\a\xff"), many, func(s []byte) { check(t, s) })
	}
	for many := range 6 {
		every([]byte("%3DgF* \x00"), many, func(s []byte) { check(t, s) })
		every([]byte("\"\\\r\n'%a"), many, func(s []byte) { check(t, slices.Concat([]byte(`"`), s)) })
	}
}

func TestLongerLists(t *testing.T) {
	kinds := []string{"a", "%", "\"", "\\", "a% ", "%3D", "%3d*", "\"\\", "a\\", "0123456789abcdefABCDEF%", stay, string(allOctets())}
	for _, of := range kinds {
		for many := range 200 {
			s := someOctets([]byte(of), many)
			check(t, s)
			check(t, slices.Concat([]byte(`"`), s, []byte(`"`)))
		}
	}
}

// Very many octets are laid and read in a time that grows with them.
func TestVeryLongLists(t *testing.T) {
	many := 1 << 18
	cases := []struct {
		of, laid, read, quoted string
		strange                int
	}{
		{"a", "a", "a", "a", 0}, {" ", "%20", " ", " ", 0}, {"%", "%25", "%", "%", 1}, {"%41", "%2541", "A", "%41", 0}, {"\xFF", "%FF", "\xFF", "\xFF", 0}, {`"`, "%22", `"`, `\"`, 0}, {`\`, "%5C", `\`, `\\`, 0},
	}
	for _, x := range cases {
		s := []byte(strings.Repeat(x.of, many))
		if got := Lay(s); string(got) != strings.Repeat(x.laid, many) {
			t.Errorf("%q, %d times, is laid otherwise", x.of, many)
		}
		if got := Read(s); string(got) != strings.Repeat(x.read, many) || Strange(s) != x.strange*many {
			t.Errorf("%q, %d times, is read otherwise", x.of, many)
		}
		if got := Quote(s); string(got) != `"`+strings.Repeat(x.quoted, many)+`"` {
			t.Errorf("%q, %d times, is quoted otherwise", x.of, many)
		}
		checkWayBack(t, s, `"`)
	}
}

// P21.3

func TestWayBack(t *testing.T) {
	behinds := []string{"", "a", " ", `"`, `""`, `\`, `\"`, "\x00", "\xFF", `; b="c"`, "%41"}
	all := func(s []byte) {
		for _, behind := range behinds {
			checkWayBack(t, s, behind)
		}
	}
	for many := range 3 {
		every(allOctets(), many, func(s []byte) { checkWayBack(t, s, behinds[len(behinds)-1-many]) })
	}
	for many := range 6 {
		every([]byte("a%\"\\4 \xff"), many, all)
	}
	for many := range 400 {
		all(someOctets(allOctets(), many))
	}
	for _, c := range allOctets() {
		checkWayBack(t, []byte(`a"\`), string([]byte{c}))
	}
}

// What is right is read by the library as the same octets, and in a parameter, too.
func TestLibraryReadsWhatIsLaid(t *testing.T) {
	one := func(s []byte) {
		laid := string(Lay(s))
		if got, err := url.PathUnescape(laid); err != nil || got != string(s) {
			t.Fatalf("%q is laid as %q, and the library reads %q, %v", s, laid, got, err)
		}
		_, pairs, err := mime.ParseMediaType("a/b; c*=utf-8''" + laid)
		if err != nil || pairs["c"] != string(s) {
			t.Fatalf("%q is laid as %q, and the library reads %q, %v", s, laid, pairs, err)
		}
	}
	every(allOctets(), 1, one)
	every(allOctets(), 2, one)
	for many := 1; many < 200; many++ {
		one(someOctets(allOctets(), many))
	}
}

func TestLibraryReadsWhatIsQuoted(t *testing.T) {
	var printable []byte
	for c := byte(' '); c < 127; c++ {
		printable = append(printable, c)
	}
	one := func(s []byte) {
		quoted := string(Quote(s))
		_, pairs, err := mime.ParseMediaType("a/b; c=" + quoted + "; d=e")
		if err != nil || pairs["c"] != string(s) || pairs["d"] != "e" {
			t.Fatalf("%q is quoted as %q, and the library reads %q, %v", s, quoted, pairs, err)
		}
	}
	every(printable, 1, one)
	every(printable, 2, one)
	every([]byte(`"\a ;`), 5, one)
	for many := 1; many < 200; many++ {
		one(someOctets(printable, many))
	}
}

// R5: nil and empty lists.
func TestNilAndEmpty(t *testing.T) {
	for _, s := range [][]byte{nil, {}, make([]byte, 0, 8)} {
		want := answers{quoted: `""`, endErr: api.ErrForm}
		if got := told(s); got != want {
			t.Errorf("of nothing is told %v", got)
		}
	}
}

// calls are those that answer a list.
func calls() []func(s []byte) []byte {
	unquote := func(s []byte) []byte {
		out, _, _ := Unquote(s)
		return out
	}
	return []func(s []byte) []byte{Lay, Read, Quote, unquote}
}

// samples are lists that stay as they are, and that do not.
func samples() []string {
	return []string{"", "a", " ", "%", "%4", "%3D", "a%20b", "a b", "abc", "\xff", "%%", "a%", `"`, `""`, `"abc"`, `"abc" x`, `"a\"b"`, `"a\`, `"abc`, `\`, strings.Repeat("a", 200), string(someOctets(allOctets(), 300)), string(Quote(someOctets(allOctets(), 300)))}
}

// R3: the same again, whatever capacity a list has, and whatever stands behind its end.
func TestSameAnswersAgain(t *testing.T) {
	for _, s := range samples() {
		want := told(slices.Clip([]byte(s)))
		for range 3 {
			if got := told(roomy([]byte(s))); got != want {
				t.Errorf("of %q is told %v, and then %v", s, want, got)
			}
		}
	}
}

// R4: lists are left as they are, and answers share nothing.

func TestListsAreLeft(t *testing.T) {
	for _, text := range samples() {
		as := []byte(text)
		s := roomy(as)
		told(s)
		if !untouched(s, as) {
			t.Errorf("%q was written into: %q", as, s[:cap(s)])
		}
	}
}

func TestAnswersShareNothing(t *testing.T) {
	for i, call := range calls() {
		for _, text := range samples() {
			as := []byte(text)
			s := roomy(as)
			first := call(s)
			want := slices.Clone(first)
			writeOver(first)
			if !untouched(s, as) {
				t.Errorf("call %d of %q answers what it was handed", i, as)
			}
			second := call(s)
			if !bytes.Equal(second, want) {
				t.Errorf("call %d of %q answers %q after a write, %q ahead", i, as, second, want)
			}
			writeOver(s)
			if !bytes.Equal(second, want) {
				t.Errorf("call %d of %q keeps what it was handed", i, as)
			}
		}
	}
}
