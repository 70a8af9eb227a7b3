package qread

import (
	"bytes"
	"fmt"
	"io"
	"mime/quotedprintable"
	"regexp"
	"slices"
	"strconv"
	"strings"
	"testing"

	"sheave/api"
	"sheave/qpage"
)

// The words of the document as patterns. A line is of octets, not of signs, so they are told one by one.
var (
	oneLine    = regexp.MustCompile(`([^\r\n]*)(\r\n|\r|\n|$)`)
	endBlanks  = regexp.MustCompile(`[\t ]+$`)
	oneEscape  = regexp.MustCompile(`=[0-9A-Fa-f][0-9A-Fa-f]`)
	everyBreak = regexp.MustCompile(`\r\n|\r|\n`)
)

// answers are what the calls tell of a list.
type answers struct {
	read    string
	strange int
	strict  string
	err     api.Errno
	again   string
}

func (a answers) String() string {
	return fmt.Sprintf("%q, %d strange, strictly %q with %d, again %q", a.read, a.strange, a.strict, a.err, a.again)
}

// told is what the calls answer of a list.
func told(s []byte) answers {
	strict, err := Strict(s)
	return answers{string(Read(s)), Strange(s), string(strict), err, string(Again(s))}
}

// expectedLine is what a line is expected to be read as, whether it ends softly, and how many `=` are strange.
func expectedLine(l string) (string, bool, int) {
	l = endBlanks.ReplaceAllString(l, "")
	soft := l != "" && l[len(l)-1] == '='
	if soft {
		l = l[:len(l)-1]
	}
	many := strings.Count(l, "=") - len(oneEscape.FindAllString(l, -1))
	octets := oneEscape.ReplaceAllStringFunc(l, func(escape string) string {
		n, err := strconv.ParseUint(escape[1:], 16, 8)
		if err != nil {
			panic(err)
		}
		return string([]byte{byte(n)})
	})
	return octets, soft, many
}

// expected is what is expected of a list, line by line.
func expected(s []byte) answers {
	var out answers
	for _, line := range oneLine.FindAllStringSubmatch(string(s), -1) {
		octets, soft, many := expectedLine(line[1])
		out.read += octets
		out.strange += many
		if !soft {
			out.read += line[2]
		}
	}
	out.err = qpage.Check(s)
	if out.err == 0 {
		out.strict = out.read
	}
	out.again = string(qpage.Lay([]byte(out.read)))
	return out
}

// check holds what the calls answer against what is expected, and P19.4.
func check(t *testing.T, s []byte) {
	t.Helper()
	got, want := told(s), expected(s)
	if got != want {
		t.Fatalf("of %q is told %v, want %v", s, got, want)
	}
	if len(got.read) > len(s) {
		t.Fatalf("%q is read as the longer %q", s, got.read)
	}
}

// checkLine does so of a line without breaks.
func checkLine(t *testing.T, l []byte) {
	t.Helper()
	want, ends, _ := expectedLine(string(l))
	got, soft := Line(l)
	if string(got) != want || soft != ends {
		t.Fatalf("Line(%q) = %q, %v, want %q, %v", l, got, soft, want, ends)
	}
}

// every hands on all lists of these octets of so many elements.
func every(of []byte, many int, do func(s []byte)) {
	s := make([]byte, many)
	var from func(at int)
	from = func(at int) {
		if at == many {
			do(s)
			return
		}
		for _, c := range of {
			s[at] = c
			from(at + 1)
		}
	}
	from(0)
}

func allOctets() []byte {
	s := make([]byte, 256)
	for c := range s {
		s[c] = byte(c)
	}
	return s
}

// someOctets is a row of so many of these octets that has no short period.
func someOctets(of []byte, many int) []byte {
	s := make([]byte, many)
	x := uint32(many) + 1
	for i := range s {
		x = x*1664525 + 1013904223
		s[i] = of[int(x>>16)%len(of)]
	}
	return s
}

// row is so many times the same octet.
func row(many int) string {
	return strings.Repeat("a", many)
}

// roomy is a list with room behind its end, that is full of digits, so that an escape would go on there.
func roomy(s []byte) []byte {
	whole := bytes.Repeat([]byte{'4'}, len(s)+32)
	copy(whole, s)
	return whole[:len(s)]
}

// untouched tells whether such a list and its room are as they were.
func untouched(s, as []byte) bool {
	room := s[len(s):cap(s)]
	return bytes.Equal(s, as) && bytes.Equal(room, bytes.Repeat([]byte{'4'}, len(room)))
}

// writeOver fills a list to its capacity, so that memory that is shared shows.
func writeOver(s []byte) {
	s = s[:cap(s)]
	for i := range s {
		s[i] = 'X'
	}
}

// P19.1

func TestReadCases(t *testing.T) {
	cases := []struct{ s, want string }{
		{"a= \n=3db", "a=b"},
		{"", ""}, {"a", "a"}, {"a b", "a b"}, {"a\r\nb\r\n", "a\r\nb\r\n"},
		// Each break stays as it is.
		{"\r", "\r"}, {"\n", "\n"}, {"\r\n", "\r\n"}, {"\n\r", "\n\r"}, {"\r\r", "\r\r"}, {"\r\r\n", "\r\r\n"}, {"\r\n\n", "\r\n\n"}, {"\r\n\r\n", "\r\n\r\n"}, {"\n\r\n", "\n\r\n"},
		{"a\rb", "a\rb"}, {"a\nb", "a\nb"}, {"a\r\nb", "a\r\nb"}, {"a\n\rb", "a\n\rb"},
		// Blanks at the end of each line, of the last one, too.
		{" ", ""}, {"\t", ""}, {" \t \t", ""}, {"a ", "a"}, {"a\t", "a"}, {"a \t ", "a"}, {" a", " a"}, {"a b ", "a b"}, {"\ta\t", "\ta"},
		{" \n", "\n"}, {"a \n", "a\n"}, {"a\t\r\n", "a\r\n"}, {"a \r", "a\r"}, {"a \r\nb \nc \r ", "a\r\nb\nc\r"}, {"a\r\n \r\n\t\r\nb", "a\r\n\r\n\r\nb"}, {"a\r \n", "a\r\n"},
		{"a\n b", "a\n b"}, {"a \x00\n", "a \x00\n"}, {"a \v\n", "a \v\n"}, {"a\xA0\n", "a\xA0\n"}, {"a \xA0 \n", "a \xA0\n"},
		// Blanks that are escapes stay, and those ahead of them.
		{"a=20", "a "}, {"a=20\n", "a \n"}, {"a=09\r\n", "a\t\r\n"}, {"a =20 \n", "a  \n"}, {"=20=20\r", "  \r"},
		// Soft ends.
		{"=", ""}, {"a=", "a"}, {"a=\n", "a"}, {"a=\r", "a"}, {"a=\r\n", "a"}, {"a=\r\nb", "ab"}, {"a=\nb", "ab"}, {"a=\rb", "ab"}, {"a=\n\rb", "a\rb"}, {"a=\r\r\nb", "a\r\nb"}, {"a=\n\nb", "a\nb"}, {"=\r\n=\r\n=\r\n", ""}, {"=\n=\r=", ""},
		{"a= ", "a"}, {"a=\t\t\n", "a"}, {"a= \r\nb", "ab"}, {"a= \t \rb", "ab"}, {"a=\t", "a"}, {" =\n", " "}, {"a =\r\nb", "a b"}, {"a\t=", "a\t"}, {"a = \nb", "a b"}, {"=\r\n ", ""},
		// One `=` alone is dropped, and then no blank any more.
		{"==", "="}, {"==\n", "="}, {"===\n", "=="}, {"= =", "= "}, {"= = \nb", "= b"}, {"==\r\n=\r\n", "="}, {"=3D=\n", "="}, {"=3D==\n", "=="}, {"=20=\n", " "}, {"=20= \nb", " b"},
		// A `=` that an escape makes ends nothing softly.
		{"a=3D\nb", "a=\nb"}, {"a=3d \nb", "a=\nb"}, {"=3D", "="}, {"=3D20", "=20"}, {"=3D3D", "=3D"}, {"=3D=3D\r\n", "==\r\n"},
		// Escapes, of capitals or not.
		{"=41", "A"}, {"=3D", "="}, {"=3d", "="}, {"=aF=Af=af=AF", "\xAF\xAF\xAF\xAF"}, {"=00=7f=80=ff", "\x00\x7F\x80\xFF"}, {"=C3=A9", "\xC3\xA9"}, {"a=62c", "abc"}, {"=0D=0A", "\r\n"}, {"=0d\n", "\r\n"}, {"=0A \n", "\n\n"}, {"=3D =\r\n", "= "},
		// What is none of an escape stays.
		{"=a\n", "=a\n"}, {"=3", "=3"}, {"=3\n", "=3\n"}, {"=3 \n", "=3\n"}, {"=3 D", "=3 D"}, {"= 3D", "= 3D"}, {"=G0", "=G0"}, {"=0g", "=0g"}, {"=:0", "=:0"}, {"=/0", "=/0"}, {"=@a", "=@a"}, {"=`a", "=`a"}, {"==3D", "=="}, {"==3Dx", "==x"}, {"=3=3D", "=3="}, {"===41", "==A"}, {"=+1", "=+1"}, {"=x3D", "=x3D"}, {"a=b", "a=b"}, {"a=bc", "a\xBC"}, {"=\xC3\xA9", "=\xC3\xA9"},
		// No escape goes beyond its line.
		{"=3\nD", "=3\nD"}, {"=\n3D", "3D"}, {"=3=\r\nD", "=3D"}, {"==\r\n3D", "=3D"}, {"=\r3D", "3D"}, {"=3=\nDx", "=3Dx"}, {"=3=", "=3"}, {"=3= D", "=3= D"}, {"=3 =\nD", "=3 D"},
		// All else stays, whatever it is.
		{"\x00\x01\x7F\x80\xFF", "\x00\x01\x7F\x80\xFF"}, {"\v\f\x85", "\v\f\x85"}, {"\xE2\x80\xA8", "\xE2\x80\xA8"}, {row(1000), row(1000)}, {"_?.", "_?."}, {"From a\n.\n", "From a\n.\n"},
	}
	for _, x := range cases {
		if got := Read([]byte(x.s)); string(got) != x.want {
			t.Errorf("Read(%q) = %q, want %q", x.s, got, x.want)
		}
		check(t, []byte(x.s))
	}
}

func TestLineCases(t *testing.T) {
	cases := []struct {
		l, want string
		soft    bool
	}{
		{"", "", false}, {"a", "a", false}, {"a b", "a b", false}, {" a", " a", false},
		{" ", "", false}, {"\t ", "", false}, {"a ", "a", false}, {"a \t", "a", false}, {"a=20", "a ", false}, {"a=20 ", "a ", false},
		{"=", "", true}, {"a=", "a", true}, {"a= ", "a", true}, {"a=\t \t", "a", true}, {"a =", "a ", true}, {" = ", " ", true}, {"==", "=", true}, {"= =", "= ", true}, {"= = ", "= ", true}, {"= =  =", "= =  ", true},
		{"=3D", "=", false}, {"=3d", "=", false}, {"=3D=", "=", true}, {"=3=", "=3", true}, {"=3", "=3", false}, {"= a", "= a", false}, {"==3D", "==", false}, {"=0D=0A", "\r\n", false}, {"=0D=0A=", "\r\n", true}, {"=0D ", "\r", false}, {"=FF=fe", "\xFF\xFE", false},
		// Breaks in it stay as they are, and end nothing.
		{"\n", "\n", false}, {"\r\n", "\r\n", false}, {"a\r", "a\r", false}, {"a \n", "a \n", false}, {"a\n ", "a\n", false}, {"a \nb ", "a \nb", false}, {"a=\n", "a=\n", false}, {"a=\r\n", "a=\r\n", false}, {"a=\nb=", "a=\nb", true}, {"=\n=", "=\n", true}, {"\n=", "\n", true}, {"\n= ", "\n", true}, {"=3D\r\n=3D", "=\r\n=", false}, {"=3\nD", "=3\nD", false}, {"=\n3D", "=\n3D", false}, {"a= \nb", "a= \nb", false},
	}
	for _, x := range cases {
		got, soft := Line([]byte(x.l))
		if string(got) != x.want || soft != x.soft {
			t.Errorf("Line(%q) = %q, %v, want %q, %v", x.l, got, soft, x.want, x.soft)
		}
	}
}

func TestEveryEscape(t *testing.T) {
	digits := "0123456789abcdef"
	right := 0
	every(allOctets(), 2, func(s []byte) {
		escape := "=" + string(s)
		high, low := strings.Index(digits, strings.ToLower(string(s[:1]))), strings.Index(digits, strings.ToLower(string(s[1:])))
		if high >= 0 && low >= 0 {
			right++
			want := "x" + string([]byte{byte(16*high + low)}) + "y"
			if got, soft := Line([]byte("x" + escape + "y")); string(got) != want || soft {
				t.Fatalf("Line of %q between x and y = %q, %v", escape, got, soft)
			}
		} else if got, _ := Line([]byte("x" + escape + "y")); string(got) != "x"+escape+"y" {
			t.Fatalf("%q between x and y, which is no escape, is read as %q", escape, got)
		}
		for _, around := range []string{"", "x", " ", "=", "=\r\n", "\n", "=3D"} {
			check(t, []byte(around+escape))
			check(t, []byte(escape+around))
		}
	})
	if right != 22*22 {
		t.Errorf("%d escapes are read, want %d", right, 22*22)
	}
}

func TestEveryOctetAlone(t *testing.T) {
	for _, c := range allOctets() {
		want := string([]byte{c})
		if c == ' ' || c == '\t' || c == '=' {
			want = ""
		}
		if got := Read([]byte{c}); string(got) != want {
			t.Errorf("Read of %d = %q, want %q", c, got, want)
		}
		got, soft := Line([]byte{c})
		if string(got) != want || soft != (c == '=') {
			t.Errorf("Line of %d = %q, %v", c, got, soft)
		}
		// Between others each stays.
		if got, want := Read([]byte{'x', c, 'y'}), string([]byte{'x', c, 'y'}); string(got) != want {
			t.Errorf("Read of x, %d, y = %q", c, got)
		}
	}
}

func TestEveryTwoOctets(t *testing.T) {
	for many := range 3 {
		every(allOctets(), many, func(s []byte) {
			check(t, s)
			if !bytes.ContainsAny(s, "\r\n") {
				checkLine(t, s)
			}
		})
	}
}

func TestEveryShortList(t *testing.T) {
	for many := range 7 {
		every([]byte("=3d \r\n\xff"), many, func(s []byte) { check(t, s) })
	}
	for many := range 6 {
		every([]byte("=3Dg \t\x00"), many, func(s []byte) { checkLine(t, s) })
		every([]byte("= a\t\r\nF0"), many, func(s []byte) { check(t, s) })
	}
}

func TestEveryOctetAtEachPlace(t *testing.T) {
	for _, of := range []string{"a= \n=3db", "a =20 \r\nb=\r\nc", "=3D=\r\n", "a\r\n\r\n", "=41 = \t\n"} {
		for at := range len(of) + 1 {
			for _, c := range allOctets() {
				check(t, slices.Concat([]byte(of[:at]), []byte{c}, []byte(of[at:])))
				if at < len(of) {
					check(t, slices.Concat([]byte(of[:at]), []byte{c}, []byte(of[at+1:])))
				}
			}
			check(t, []byte(of[:at]))
			check(t, []byte(of[at:]))
		}
	}
}

func TestLongerLists(t *testing.T) {
	kinds := []string{"a", "=", " ", "\r", "\n", "a= ", "=3D", "=3d\n", "ab= \r\n", "=41\r\n", " \t=\n", "0123456789abcdefABCDEF=", string(allOctets())}
	for _, of := range kinds {
		for many := range 300 {
			s := someOctets([]byte(of), many)
			check(t, s)
			check(t, bytes.ReplaceAll(s, []byte("\r"), []byte("\r\n")))
		}
	}
}

// Lines without end, and very many of them, are read in a time that grows with their octets.
func TestVeryLongLists(t *testing.T) {
	many := 1 << 18
	cases := []struct {
		of, want string
		strange  int
	}{
		{"a", "a", 0}, {"=41", "A", 0}, {"\r", "\r", 0}, {"\n", "\n", 0}, {"\r\n", "\r\n", 0}, {"=\n", "", 0}, {"a \n", "a\n", 0}, {"=z", "=z", 1}, {" a", " a", 0}, {"= \n", "", 0},
	}
	for _, x := range cases {
		s := []byte(strings.Repeat(x.of, many))
		if got, want := Read(s), strings.Repeat(x.want, many); string(got) != want {
			t.Errorf("%q, %d times, is read otherwise", x.of, many)
		}
		if got := Strange(s); got != x.strange*many {
			t.Errorf("%q, %d times, has %d strange ones", x.of, many, got)
		}
	}
	if got := Read(bytes.Repeat([]byte(" "), many)); len(got) != 0 {
		t.Errorf("%d blanks are read as %d octets", many, len(got))
	}
}

// What is read of two lines is what is read of each, by Line.
func TestReadIsLineByLine(t *testing.T) {
	pieces := []string{"a", "a ", "=", "a=", "= ", "=3d", "=3", " ", "", "==", "=20"}
	for _, first := range pieces {
		for _, second := range pieces {
			for _, end := range []string{"\r\n", "\r", "\n"} {
				checkTwoLines(t, first, end, second)
			}
		}
	}
}

// checkTwoLines holds what is read of two lines against what Line tells of both.
func checkTwoLines(t *testing.T, first, end, second string) {
	t.Helper()
	a, soft := Line([]byte(first))
	b, _ := Line([]byte(second))
	want := string(a) + end + string(b)
	if soft {
		want = string(a) + string(b)
	}
	if got := Read([]byte(first + end + second)); string(got) != want {
		t.Errorf("Read of %q, %q, %q = %q, want %q", first, end, second, got, want)
	}
}

// P19.2

func TestStrictCases(t *testing.T) {
	cases := []struct {
		s, want string
		err     api.Errno
	}{
		{"", "", api.OK}, {"\r\n", "\r\n", api.OK}, {"a\r\n", "a\r\n", api.OK}, {"a=\r\n", "a", api.OK}, {"=3D=20\r\n", "= \r\n", api.OK}, {"a =\r\nb\r\n", "a b\r\n", api.OK}, {"=\r\n", "", api.OK}, {"=0D=0A=\r\n", "\r\n", api.OK}, {"=C3=A9\r\n", "\xC3\xA9\r\n", api.OK},
		{row(76) + "\r\n", row(76) + "\r\n", api.OK}, {row(75) + "=\r\na\r\n", row(76) + "\r\n", api.OK},
		// The error that is named first, of the first line that has one; nothing is read then.
		{row(77) + "\r\n", "", api.ErrLong}, {row(77), "", api.ErrLong}, {row(76) + "=\r\n", "", api.ErrLong}, {"a\r\n" + row(77) + "\r\n", "", api.ErrLong}, {"=z" + row(75), "", api.ErrLong},
		{"a", "", api.ErrEnd}, {"a=", "", api.ErrEnd}, {"a\r\nb", "", api.ErrEnd}, {" ", "", api.ErrEnd}, {"a\n", "", api.ErrEnd}, {"a\r", "", api.ErrEnd}, {"=3d", "", api.ErrEnd}, {"a= \n=3db", "", api.ErrEnd},
		{"a \r\n", "", api.ErrForm}, {"a= \r\n", "", api.ErrForm}, {"=3d\r\n", "", api.ErrForm}, {"=z\r\n", "", api.ErrForm}, {"==\r\n", "", api.ErrForm}, {"=3\r\n", "", api.ErrForm}, {"a\nb\r\n", "", api.ErrForm}, {"a\rb\r\n", "", api.ErrForm}, {"\xFF\r\n", "", api.ErrForm}, {"\x00\r\n", "", api.ErrForm}, {"a\r\nb \r\nc\r\n", "", api.ErrForm}, {"=z\r\n" + row(77), "", api.ErrForm},
	}
	for _, x := range cases {
		got, err := Strict([]byte(x.s))
		if string(got) != x.want || err != x.err {
			t.Errorf("Strict(%q) = %q, %d, want %q, %d", x.s, got, err, x.want, x.err)
		}
		check(t, []byte(x.s))
	}
}

// What is right is read as the library has it, too.
func TestStrictOfAllThatIsRight(t *testing.T) {
	right := 0
	one := func(s []byte) {
		got, err := Strict(s)
		if err != api.OK {
			return
		}
		right++
		want, fault := io.ReadAll(quotedprintable.NewReader(bytes.NewReader(s)))
		if fault != nil || !bytes.Equal(got, want) {
			t.Fatalf("Strict(%q) = %q, and the library reads %q, %v", s, got, want, fault)
		}
	}
	for many := range 7 {
		every([]byte("=3Da "), many, func(s []byte) {
			one(append(slices.Clone(s), "\r\n"...))
			one(append(slices.Clone(s), "=\r\nb\r\n"...))
		})
	}
	if right < 5000 {
		t.Errorf("%d lists are right", right)
	}
}

func TestStrangeCases(t *testing.T) {
	cases := []struct {
		s    string
		want int
	}{
		{"", 0}, {"a", 0}, {"=3D", 0}, {"=3d=41\r\n", 0}, {"a= \n=3db", 0},
		// Those that end lines softly.
		{"=", 0}, {"a=", 0}, {"a=\n", 0}, {"a=\r\n", 0}, {"a=\r", 0}, {"a= ", 0}, {"a=\t\r\n=\n=", 0}, {"=3D=\n", 0}, {"=\n=\r=\r\n= ", 0},
		// None of an escape.
		{"=a", 1}, {"=3", 1}, {"= a", 1}, {"=zz", 1}, {"=3g", 1}, {"=g3", 1}, {"a=b\n", 1}, {"=3 D", 1}, {"=3\nD", 1}, {"=a=b=c\n", 3}, {"=a\n=b\r=c\r\n=d", 4}, {"\xFF=\xFF", 1},
		{"==", 1}, {"===", 2}, {"= =", 1}, {"== \n", 1}, {"=3=", 1}, {"=3=\nD", 1}, {"==3D", 1}, {"=3=3D", 1}, {"====", 3}, {"==\n==\n", 2}, {"=x=3D=\n=y", 2},
		// What escapes make is none.
		{"=3Da", 0}, {"=3D3D", 0}, {"=3D=3D=3D", 0}, {"=3D=", 0}, {"=3D==", 1},
	}
	for _, x := range cases {
		if got := Strange([]byte(x.s)); got != x.want {
			t.Errorf("Strange(%q) = %d, want %d", x.s, got, x.want)
		}
		check(t, []byte(x.s))
	}
}

func TestStrictHasNothingStrange(t *testing.T) {
	for many := range 6 {
		every([]byte("=3Dda "), many, func(s []byte) {
			line := append(slices.Clone(s), "\r\n"...)
			if _, err := Strict(line); err == api.OK && Strange(line) != 0 {
				t.Fatalf("Strange(%q) = %d", line, Strange(line))
			}
		})
	}
}

func TestAgainCases(t *testing.T) {
	cases := []struct{ s, want string }{
		{"", ""}, {"a", "a=\r\n"}, {"a\n", "a\r\n"}, {"a \n", "a\r\n"}, {"a=20\n", "a=20\r\n"}, {"a= \n=3db", "a=3Db=\r\n"}, {"=z\r\n", "=3Dz\r\n"}, {"=3d\r\n", "=3D\r\n"}, {"=41\r\n", "A\r\n"},
		{"\xFF\r", "=FF\r\n"}, {"=0D=0A=\r\n", "\r\n"}, {"=0A", "\r\n"}, {"=\r\n", ""}, {"a=\r\nb=\r\n", "ab=\r\n"}, {row(80) + "\r\n", row(75) + "=\r\naaaaa\r\n"}, {" ", ""}, {"==", "=3D=\r\n"},
	}
	for _, x := range cases {
		if got := Again([]byte(x.s)); string(got) != x.want {
			t.Errorf("Again(%q) = %q, want %q", x.s, got, x.want)
		}
	}
}

// What is laid again is right, and stays so.
func TestAgainIsRight(t *testing.T) {
	one := func(s []byte) {
		once := Again(s)
		if err := qpage.Check(once); err != api.OK {
			t.Fatalf("Again(%q) = %q, of which Check tells %d", s, once, err)
		}
		if got := Again(once); !bytes.Equal(got, once) {
			t.Fatalf("Again(%q) = %q, and again %q", s, once, got)
		}
		if got, err := Strict(once); err != api.OK || !bytes.Equal(got, qpage.Breaks(Read(s))) {
			t.Fatalf("Again(%q) = %q, strictly read as %q, %d", s, once, got, err)
		}
	}
	for many := range 6 {
		every([]byte("=3d \r\n\xff"), many, one)
	}
	for many := range 300 {
		one(someOctets(allOctets(), many))
		one(someOctets([]byte("a= 3D\r\n"), many))
	}
}

// P19.3

func TestWhatIsLaidIsRead(t *testing.T) {
	one := func(s []byte) {
		out, want := qpage.Lay(s), everyBreak.ReplaceAllString(string(s), "\r\n")
		if got := Read(out); string(got) != want || !bytes.Equal(got, qpage.Breaks(s)) {
			t.Fatalf("%q is laid as %q and read as %q", s, out, got)
		}
		if got, err := Strict(out); string(got) != want || err != api.OK {
			t.Fatalf("%q is laid as %q and strictly read as %q, %d", s, out, got, err)
		}
		if many := Strange(out); many != 0 {
			t.Fatalf("%q is laid as %q, in which %d are strange", s, out, many)
		}
		if got := Again(out); !bytes.Equal(got, out) {
			t.Fatalf("%q is laid as %q, and again as %q", s, out, got)
		}
	}
	for many := range 3 {
		every(allOctets(), many, one)
	}
	for many := range 6 {
		every([]byte("a= \t\r\n\xff"), many, one)
	}
	for many := range 400 {
		one(someOctets(allOctets(), many))
		one(someOctets([]byte("ab= \t\r\n"), many))
		one([]byte(row(many)))
		one(bytes.Repeat([]byte(" "), many))
		one(bytes.Repeat([]byte("="), many))
		one(append([]byte(row(many)), " \n"...))
		one(append([]byte(row(many)), "\t"...))
	}
	one(someOctets(allOctets(), 1<<16))
}

// What is lost on the way of laid octets, or put behind their lines, plays no part.
func TestWhatIsLaidIsReadThoughBlanksArePutBehind(t *testing.T) {
	for many := range 200 {
		s := someOctets([]byte("abc= \t\n\xff"), many)
		out := string(qpage.Lay(s))
		want := Read([]byte(out))
		for _, end := range []string{" \r\n", "\t \r\n", "  \r\n"} {
			if got := Read([]byte(strings.ReplaceAll(out, "\r\n", end))); !bytes.Equal(got, want) {
				t.Fatalf("%q with blanks behind its lines is read as %q", out, got)
			}
		}
		for _, end := range []string{"\n", "\r"} {
			got := Read([]byte(strings.ReplaceAll(out, "\r\n", end)))
			if !bytes.Equal(got, bytes.ReplaceAll(want, []byte("\r\n"), []byte(end))) {
				t.Fatalf("%q with other breaks is read as %q", out, got)
			}
		}
	}
}

// P19.4

func TestNoMoreThanWasReadOf(t *testing.T) {
	for many := range 500 {
		for _, of := range []string{"a", "=", "=3D", "\n", "\r\n", "a =\n", string(allOctets())} {
			s := someOctets([]byte(of), many)
			if got := Read(s); len(got) > len(s) {
				t.Fatalf("%q is read as %d octets", s, len(got))
			}
			if got, _ := Line(s); len(got) > len(s) {
				t.Fatalf("the line %q is read as %d octets", s, len(got))
			}
		}
		// As many, just where nothing is an escape, a soft end or a blank at the end.
		if got := Read([]byte(row(many) + "\n")); len(got) != many+1 {
			t.Fatalf("%d octets are read as %d", many+1, len(got))
		}
	}
}

// R5: nil and empty lists.
func TestNilAndEmpty(t *testing.T) {
	for _, s := range [][]byte{nil, {}, make([]byte, 0, 8)} {
		if got := told(s); got != (answers{}) {
			t.Errorf("of nothing is told %v", got)
		}
		if got, soft := Line(s); len(got) != 0 || soft {
			t.Errorf("Line of nothing = %q, %v", got, soft)
		}
	}
}

// calls are those that answer a list, each of them as one of a list alone.
func calls() []func(s []byte) []byte {
	line := func(s []byte) []byte { out, _ := Line(s); return out }
	strict := func(s []byte) []byte { out, _ := Strict(s); return out }
	return []func(s []byte) []byte{Read, line, strict, Again}
}

// samples are lists that are short and long, with breaks and without.
func samples() []string {
	return []string{"", "a", " ", "=", "=3", "=3D", "\r", "\n", "a= \n=3db", "a\rb\nc\r\n", "\xff", row(76), row(200) + " \n", "a=\r\n", "=3D\r\n", "a =\r\n", "a b\r\nc\r\n", "==", "=4", "a\r", string(someOctets(allOctets(), 300))}
}

// R3: the same again, whatever capacity a list has, and whatever stands behind its end.
func TestSameAnswersAgain(t *testing.T) {
	for _, s := range samples() {
		alone := slices.Clip([]byte(s))
		want := told(alone)
		line, soft := Line(alone)
		for range 3 {
			with := roomy([]byte(s))
			if got := told(with); got != want {
				t.Errorf("of %q is told %v, and then %v", s, want, got)
			}
			if got, ends := Line(with); !bytes.Equal(got, line) || ends != soft {
				t.Errorf("Line(%q) = %q, %v, and then %q, %v", s, line, soft, got, ends)
			}
		}
	}
}

// R4: lists are left as they are, and answers share nothing.

func TestListsAreLeft(t *testing.T) {
	for _, text := range samples() {
		as := []byte(text)
		s := roomy(as)
		for _, call := range calls() {
			call(s)
		}
		Strange(s)
		if !untouched(s, as) {
			t.Errorf("%q was written into: %q", as, s[:cap(s)])
		}
	}
}

func TestAnswersShareNothing(t *testing.T) {
	for i, call := range calls() {
		for _, text := range samples() {
			as := []byte(text)
			s := roomy(as)
			first := call(s)
			want := slices.Clone(first)
			writeOver(first)
			if !untouched(s, as) {
				t.Errorf("call %d of %q answers what it was handed", i, as)
			}
			second := call(s)
			if !bytes.Equal(second, want) {
				t.Errorf("call %d of %q answers %q after a write, %q ahead", i, as, second, want)
			}
			writeOver(s)
			if !bytes.Equal(second, want) {
				t.Errorf("call %d of %q keeps what it was handed", i, as)
			}
		}
	}
}
