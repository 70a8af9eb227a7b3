package qpage

import (
	"bytes"
	"fmt"
	"io"
	"mime/quotedprintable"
	"regexp"
	"slices"
	"strings"
	"testing"

	"sheave/api"
)

// oneBreak is the break that octets begin with.
var oneBreak = regexp.MustCompile(`^(\r\n|\r|\n)`)

// parted are the breaks of octets, each as 13, 10, and the octets between them.
func parted(s []byte) []string {
	var out []string
	for len(s) > 0 {
		if at := oneBreak.FindIndex(s); at != nil {
			out = append(out, "\r\n")
			s = s[at[1]:]
			continue
		}
		out = append(out, string(s[:1]))
		s = s[1:]
	}
	return out
}

// unitOf is an octet's unit as the document has it, ahead of a break or not.
func unitOf(c byte, ends bool) string {
	switch {
	case c >= 33 && c <= 60, c >= 62 && c <= 126:
		return string(rune(c))
	case (c == 32 || c == 9) && !ends:
		return string(rune(c))
	}
	return fmt.Sprintf("=%02X", c)
}

// laid is what is expected: all lines at first, each with its units, and then cut where it is too long.
func laid(s []byte) string {
	out, line := "", ""
	parts := parted(s)
	for i, part := range parts {
		if part == "\r\n" {
			out, line = out+line+part, ""
			continue
		}
		unit := unitOf(part[0], i+1 < len(parts) && parts[i+1] == "\r\n")
		if len(line+unit) >= 76 {
			out, line = out+line+"=\r\n", ""
		}
		line += unit
	}
	if line != "" {
		out += line + "=\r\n"
	}
	return out
}

// rightLine is the grammar of a line: what may stand, and a `=` behind it, or nothing behind what is no blank.
var rightLine = regexp.MustCompile(`^(([\t -<>-~]|=[0-9A-F]{2})*=|(([\t -<>-~]|=[0-9A-F]{2})*([!-<>-~]|=[0-9A-F]{2}))?)$`)

// expectedFault is what Check is expected to tell, line by line.
func expectedFault(s []byte) api.Errno {
	lines := strings.Split(string(s), "\r\n")
	last := len(lines) - 1
	for i, line := range lines {
		switch {
		case len(line) > 76:
			return 12
		case i == last && line != "":
			return 4
		case !rightLine.MatchString(line):
			return 3
		}
	}
	return 0
}

// expectedSoft is how many lines that end are expected to end with `=`.
func expectedSoft(s []byte) int {
	lines := strings.Split(string(s), "\r\n")
	many := 0
	for _, line := range lines[:len(lines)-1] {
		if strings.HasSuffix(line, "=") {
			many++
		}
	}
	return many
}

// checkLaid holds Lay, Len and Breaks of a list against what is expected, and P18.3.
func checkLaid(t *testing.T, s []byte) {
	t.Helper()
	got, want := Lay(s), laid(s)
	if string(got) != want {
		t.Fatalf("Lay(%q) = %q, want %q", s, got, want)
	}
	if many := Len(s); many != len(want) {
		t.Fatalf("Len(%q) = %d, want %d", s, many, len(want))
	}
	if got, want := Breaks(s), strings.Join(parted(s), ""); string(got) != want {
		t.Fatalf("Breaks(%q) = %q, want %q", s, got, want)
	}
	if err := Check(got); err != api.OK {
		t.Fatalf("Lay(%q) = %q, of which Check tells %d", s, got, err)
	}
}

// checkTold holds Check and Soft of a list against what is expected.
func checkTold(t *testing.T, s []byte) {
	t.Helper()
	if got, want := Check(s), expectedFault(s); got != want {
		t.Fatalf("Check(%q) = %d, want %d", s, got, want)
	}
	if got, want := Soft(s), expectedSoft(s); got != want {
		t.Fatalf("Soft(%q) = %d, want %d", s, got, want)
	}
}

// every hands on all lists of these octets of so many elements.
func every(of []byte, many int, do func(s []byte)) {
	s := make([]byte, many)
	var from func(at int)
	from = func(at int) {
		if at == many {
			do(s)
			return
		}
		for _, c := range of {
			s[at] = c
			from(at + 1)
		}
	}
	from(0)
}

func allOctets() []byte {
	s := make([]byte, 256)
	for c := range s {
		s[c] = byte(c)
	}
	return s
}

// someOctets is a row of so many of these octets that has no short period.
func someOctets(of []byte, many int) []byte {
	s := make([]byte, many)
	x := uint32(many) + 1
	for i := range s {
		x = x*1664525 + 1013904223
		s[i] = of[int(x>>16)%len(of)]
	}
	return s
}

// row is so many times the same octet.
func row(many int) string {
	return strings.Repeat("a", many)
}

// roomy is a list with room behind its end, that is full of something.
func roomy(s []byte) []byte {
	whole := bytes.Repeat([]byte{'\n'}, len(s)+32)
	copy(whole, s)
	return whole[:len(s)]
}

// untouched tells whether such a list and its room are as they were.
func untouched(s, as []byte) bool {
	room := s[len(s):cap(s)]
	return bytes.Equal(s, as) && bytes.Equal(room, bytes.Repeat([]byte{'\n'}, len(room)))
}

// writeOver fills a list to its capacity, so that memory that is shared shows.
func writeOver(s []byte) {
	s = s[:cap(s)]
	for i := range s {
		s[i] = 'X'
	}
}

// P18.1

func TestUnitOfEveryOctet(t *testing.T) {
	for _, c := range allOctets() {
		for _, ends := range []bool{false, true} {
			want := fmt.Sprintf("=%02X", c)
			if c >= 33 && c <= 126 && c != '=' || !ends && (c == 32 || c == 9) {
				want = string(rune(c))
			}
			if got := Unit(c, ends); string(got) != want {
				t.Errorf("Unit(%d, %v) = %q, want %q", c, ends, got, want)
			}
		}
	}
}

func TestUnitAtEdges(t *testing.T) {
	cases := []struct {
		c             byte
		within, ahead string
	}{
		{0, "=00", "=00"}, {8, "=08", "=08"}, {9, "\t", "=09"}, {10, "=0A", "=0A"}, {11, "=0B", "=0B"}, {13, "=0D", "=0D"},
		{31, "=1F", "=1F"}, {32, " ", "=20"}, {33, "!", "!"}, {'.', ".", "."}, {'<', "<", "<"}, {'=', "=3D", "=3D"}, {'>', ">", ">"},
		{'A', "A", "A"}, {'a', "a", "a"}, {'0', "0", "0"}, {'_', "_", "_"}, {'?', "?", "?"}, {126, "~", "~"}, {127, "=7F", "=7F"},
		{128, "=80", "=80"}, {0xA0, "=A0", "=A0"}, {0xC3, "=C3", "=C3"}, {0xE9, "=E9", "=E9"}, {0xFF, "=FF", "=FF"},
	}
	for _, x := range cases {
		if got := Unit(x.c, false); string(got) != x.within {
			t.Errorf("Unit(%d, false) = %q, want %q", x.c, got, x.within)
		}
		if got := Unit(x.c, true); string(got) != x.ahead {
			t.Errorf("Unit(%d, true) = %q, want %q", x.c, got, x.ahead)
		}
	}
}

func TestLayCases(t *testing.T) {
	cases := []struct{ s, want string }{
		{"a= \n", "a=3D=20\r\n"},
		{"", ""},
		{"a", "a=\r\n"},
		{"a\r\n", "a\r\n"}, {"a\n", "a\r\n"}, {"a\r", "a\r\n"},
		{"a\r\nb", "a\r\nb=\r\n"}, {"a\nb\n", "a\r\nb\r\n"}, {"a\rb\r", "a\r\nb\r\n"},
		// Breaks behind each other.
		{"\r\n", "\r\n"}, {"\n", "\r\n"}, {"\r", "\r\n"},
		{"\n\r", "\r\n\r\n"}, {"\r\r\n", "\r\n\r\n"}, {"\r\n\n", "\r\n\r\n"}, {"\r\n\r\n", "\r\n\r\n"}, {"\n\r\n\r", "\r\n\r\n\r\n"},
		// Blanks ahead of a break, and elsewhere.
		{" ", " =\r\n"}, {"\t", "\t=\r\n"}, {"a ", "a =\r\n"}, {"a  ", "a  =\r\n"}, {" a", " a=\r\n"},
		{" \r\n", "=20\r\n"}, {" \r", "=20\r\n"}, {" \n", "=20\r\n"}, {"\t\r\n", "=09\r\n"}, {"\t\r", "=09\r\n"}, {"\t\n", "=09\r\n"},
		{"  \n", " =20\r\n"}, {"\t \n", "\t=20\r\n"}, {" \t\n", " =09\r\n"}, {" \n ", "=20\r\n =\r\n"}, {"a b\n", "a b\r\n"}, {"\n ", "\r\n =\r\n"}, {" \x80\n", " =80\r\n"},
		// Escapes.
		{"=", "=3D=\r\n"}, {"==\n", "=3D=3D\r\n"}, {"=3D\n", "=3D3D\r\n"}, {"\xC3\xA9\n", "=C3=A9\r\n"}, {"\x00\x1F\x7F\xFF\n", "=00=1F=7F=FF\r\n"}, {"=\r\n", "=3D\r\n"}, {"\v\f\n", "=0B=0C\r\n"},
		{"From me\n.\n", "From me\r\n.\r\n"},
		// About where one line ends, and the next one.
		{row(74), row(74) + "=\r\n"}, {row(75), row(75) + "=\r\n"}, {row(76), row(75) + "=\r\na=\r\n"},
		{row(75) + "\n", row(75) + "\r\n"}, {row(76) + "\n", row(75) + "=\r\na\r\n"}, {row(77) + "\n", row(75) + "=\r\naa\r\n"},
		{row(150) + "\n", row(75) + "=\r\n" + row(75) + "\r\n"}, {row(151), row(75) + "=\r\n" + row(75) + "=\r\na=\r\n"},
		{row(71) + "=", row(71) + "=3D=\r\n"}, {row(72) + "=", row(72) + "=3D=\r\n"}, {row(73) + "=", row(73) + "=\r\n=3D=\r\n"}, {row(74) + "=", row(74) + "=\r\n=3D=\r\n"}, {row(75) + "=", row(75) + "=\r\n=3D=\r\n"},
		{row(72) + "=a", row(72) + "=3D=\r\na=\r\n"}, {row(72) + "=\n", row(72) + "=3D\r\n"}, {row(73) + "=\n", row(73) + "=\r\n=3D\r\n"},
		{row(74) + " b", row(74) + " =\r\nb=\r\n"}, {row(74) + " ", row(74) + " =\r\n"}, {row(75) + " ", row(75) + "=\r\n =\r\n"}, {row(75) + " b", row(75) + "=\r\n b=\r\n"},
		{row(72) + " \n", row(72) + "=20\r\n"}, {row(73) + " \n", row(73) + "=\r\n=20\r\n"}, {row(74) + " \n", row(74) + "=\r\n=20\r\n"}, {row(75) + " \n", row(75) + "=\r\n=20\r\n"},
		{row(74) + " =\n", row(74) + " =\r\n=3D\r\n"},
		// A break begins the count anew.
		{row(75) + "\n" + row(75) + "\r" + row(75), row(75) + "\r\n" + row(75) + "\r\n" + row(75) + "=\r\n"},
		{strings.Repeat("=", 26), strings.Repeat("=3D", 25) + "=\r\n=3D=\r\n"},
		{strings.Repeat("=", 25) + "\n", strings.Repeat("=3D", 25) + "\r\n"},
	}
	for _, x := range cases {
		if got := Lay([]byte(x.s)); string(got) != x.want {
			t.Errorf("Lay(%q) = %q, want %q", x.s, got, x.want)
		}
		if got := Len([]byte(x.s)); got != len(x.want) {
			t.Errorf("Len(%q) = %d, want %d", x.s, got, len(x.want))
		}
	}
}

func TestBreaksCases(t *testing.T) {
	cases := []struct{ s, want string }{
		{"", ""}, {"a", "a"}, {" ", " "},
		{"\r", "\r\n"}, {"\n", "\r\n"}, {"\r\n", "\r\n"},
		{"\n\r", "\r\n\r\n"}, {"\r\r", "\r\n\r\n"}, {"\n\n", "\r\n\r\n"}, {"\r\r\n", "\r\n\r\n"}, {"\r\n\r", "\r\n\r\n"}, {"\r\n\n", "\r\n\r\n"}, {"\n\r\n", "\r\n\r\n"}, {"\r\n\r\n", "\r\n\r\n"},
		{"a\rb\nc\r\nd", "a\r\nb\r\nc\r\nd"}, {"\ra", "\r\na"}, {"a \n", "a \r\n"}, {"a=\n=0D", "a=\r\n=0D"},
		{"\v\f\x85\xe2\x80\xa8\x00", "\v\f\x85\xe2\x80\xa8\x00"}, {row(100), row(100)},
	}
	for _, x := range cases {
		if got := Breaks([]byte(x.s)); string(got) != x.want {
			t.Errorf("Breaks(%q) = %q, want %q", x.s, got, x.want)
		}
	}
}

func TestLayOfEveryTwoOctets(t *testing.T) {
	for many := range 3 {
		every(allOctets(), many, func(s []byte) {
			checkLaid(t, s)
			checkTold(t, s)
		})
	}
}

func TestLayOfEveryShortList(t *testing.T) {
	for many := range 7 {
		every([]byte("a= \t\r\n\xff"), many, func(s []byte) { checkLaid(t, s) })
	}
}

// What stands about the end of a line, wherever that line is.
func TestLayAboutEachLength(t *testing.T) {
	for many := 68; many < 80; many++ {
		for more := range 5 {
			every([]byte("a= \r\n\xff"), more, func(s []byte) {
				checkLaid(t, append([]byte(row(many)), s...))
			})
		}
		every([]byte("a \n"), 3, func(s []byte) {
			checkLaid(t, append([]byte("b\n"+row(many)), s...))
			checkLaid(t, append([]byte(row(75+many)), s...))
			checkLaid(t, append([]byte("="+row(many-3)), s...))
			checkLaid(t, append(bytes.Repeat([]byte(" "), many), s...))
		})
	}
}

func TestLayOfLongerLists(t *testing.T) {
	kinds := []string{"a", "=", " ", "\n", "\r", "a ", "ab=", "abc \xff", "abcdefgh=\n", "a\r\n", " \t\r\n", string(allOctets())}
	for _, of := range kinds {
		for many := range 400 {
			checkLaid(t, someOctets([]byte(of), many))
		}
		s := someOctets([]byte(of), 100001)
		if got, want := Len(s), len(Lay(s)); got != want {
			t.Errorf("Len of %d octets = %d, want %d", len(s), got, want)
		}
		if err := Check(Lay(s)); err != api.OK {
			t.Errorf("what is laid of %d octets tells %d", len(s), err)
		}
	}
}

// P18.2

func TestCheckCases(t *testing.T) {
	soft := row(75) + "=\r\n"
	cases := []struct {
		s    string
		want api.Errno
	}{
		{"", api.OK}, {"\r\n", api.OK}, {"\r\n\r\n", api.OK}, {"a\r\n", api.OK}, {"a\r\n\r\nb\r\n", api.OK}, {"~!<>.\r\n", api.OK},
		{"a=3D=20\r\n", api.OK}, {"=41\r\n", api.OK}, {"=0D=0A\r\n", api.OK}, {"=FF=AB=C9\r\n", api.OK}, {"=00\r\n", api.OK},
		{"=\r\n", api.OK}, {"a=\r\n", api.OK}, {"a =\r\n", api.OK}, {" =\r\n", api.OK}, {"\t=\r\n", api.OK}, {"=3D=\r\n", api.OK}, {"=20=\r\n=\r\n", api.OK},
		{" a\r\n", api.OK}, {"\ta\tb c\r\n", api.OK}, {" =20\r\n", api.OK}, {"a =09\r\n", api.OK},
		{soft, api.OK}, {row(76) + "\r\n", api.OK}, {soft + row(76) + "\r\n", api.OK}, {row(73) + "=3D\r\n", api.OK}, {row(72) + "=3D=\r\n", api.OK},
		// Lines that are too long.
		{row(77) + "\r\n", api.ErrLong}, {row(76) + "=\r\n", api.ErrLong}, {row(74) + "=3D\r\n", api.ErrLong}, {row(76) + " \r\n", api.ErrLong}, {row(76) + "\r\r\n", api.ErrLong},
		{row(77), api.ErrLong}, {row(76) + "=", api.ErrLong}, {row(76) + "\r", api.ErrLong}, {row(76) + "\n", api.ErrLong}, {soft + row(77), api.ErrLong}, {soft + row(77) + "\r\n", api.ErrLong}, {row(1000), api.ErrLong},
		{strings.Repeat("\xff", 77) + "\r\n", api.ErrLong}, {row(40) + "\n" + row(40) + "\r\n", api.ErrLong}, {row(40) + "\r" + row(40) + "\r\n", api.ErrLong},
		// Lines that do not end.
		{"a", api.ErrEnd}, {"=", api.ErrEnd}, {" ", api.ErrEnd}, {"\r", api.ErrEnd}, {"\n", api.ErrEnd}, {"a\r", api.ErrEnd}, {"a\n", api.ErrEnd}, {"\n\r", api.ErrEnd}, {"a=", api.ErrEnd}, {"a=\r", api.ErrEnd}, {"a=\n", api.ErrEnd},
		{row(76), api.ErrEnd}, {row(75) + "\r", api.ErrEnd}, {soft + "a", api.ErrEnd}, {soft + " ", api.ErrEnd}, {"\r\n\n", api.ErrEnd}, {"\r\n\r", api.ErrEnd},
		{"\xff", api.ErrEnd}, {"=3d", api.ErrEnd}, {"==", api.ErrEnd},
		// What may not stand there.
		{"\xff\r\n", api.ErrForm}, {"\x80\r\n", api.ErrForm}, {"\x00\r\n", api.ErrForm}, {"\x7f\r\n", api.ErrForm}, {"\x1f\r\n", api.ErrForm}, {"\v\r\n", api.ErrForm}, {"a\x08b\r\n", api.ErrForm},
		{"\r\r\n", api.ErrForm}, {"\n\r\n", api.ErrForm}, {"a\rb\r\n", api.ErrForm}, {"a\nb\r\n", api.ErrForm}, {"a=\rb\r\n", api.ErrForm}, {"a=\nb\r\n", api.ErrForm}, {"=\r\r\n", api.ErrForm},
		// A `=` that is neither the last one nor an escape's.
		{"==\r\n", api.ErrForm}, {"===\r\n", api.ErrForm}, {"=a\r\n", api.ErrForm}, {"=A\r\n", api.ErrForm}, {"=3\r\n", api.ErrForm}, {"=3=\r\n", api.ErrForm}, {"a=b\r\n", api.ErrForm}, {"=G0\r\n", api.ErrForm}, {"=0G\r\n", api.ErrForm}, {"=0:\r\n", api.ErrForm}, {"=/0\r\n", api.ErrForm}, {"=@A\r\n", api.ErrForm},
		{"= 41\r\n", api.ErrForm}, {"=4 1\r\n", api.ErrForm}, {"==3D\r\n", api.ErrForm}, {"=3D==\r\n", api.ErrForm}, {"=3=3D\r\n", api.ErrForm}, {"a=\r\n=z\r\n", api.ErrForm}, {"= =\r\n", api.ErrForm}, {"= a\r\n", api.ErrForm},
		{"=3\r\nD\r\n", api.ErrForm}, {"=\r\n3D\r\n", api.OK},
		// Small digits.
		{"=3d\r\n", api.ErrForm}, {"=d3\r\n", api.ErrForm}, {"=aA\r\n", api.ErrForm}, {"=Aa\r\n", api.ErrForm}, {"=ff\r\n", api.ErrForm}, {"=3Dd=3d\r\n", api.ErrForm}, {"=3Dd\r\n", api.OK}, {"=3Dabcdef\r\n", api.OK},
		// A blank that is the last octet.
		{" \r\n", api.ErrForm}, {"\t\r\n", api.ErrForm}, {"a \r\n", api.ErrForm}, {"a\t\r\n", api.ErrForm}, {"a  \r\n", api.ErrForm}, {"= \r\n", api.ErrForm}, {"=20 \r\n", api.ErrForm}, {"a=\t\r\n", api.ErrForm}, {"a\r\n \r\n", api.ErrForm}, {row(75) + " \r\n", api.ErrForm},
	}
	for _, x := range cases {
		if got := Check([]byte(x.s)); got != x.want {
			t.Errorf("Check(%q) = %d, want %d", x.s, got, x.want)
		}
		checkTold(t, []byte(x.s))
	}
}

// Of a line the first error named is told, and of lines the first one's.
func TestWhichFaultIsTold(t *testing.T) {
	long, form, open := row(77)+"\r\n", "=z\r\n", "a"
	cases := []struct {
		s    string
		want api.Errno
	}{
		{long + form, api.ErrLong}, {form + long, api.ErrForm}, {form + open, api.ErrForm}, {long + open, api.ErrLong},
		{form + row(77), api.ErrForm}, {"a\r\n" + long + form, api.ErrLong}, {"a\r\n" + form + long, api.ErrForm}, {"a\r\n" + open, api.ErrEnd},
		{row(76) + " \r\n", api.ErrLong}, {"=z" + row(75) + "\r\n", api.ErrLong}, {"=z" + row(75), api.ErrLong}, {row(76) + "\xff", api.ErrLong},
		{"=z", api.ErrEnd}, {"a ", api.ErrEnd}, {"\xff", api.ErrEnd}, {"=z" + row(74), api.ErrEnd}, {"=z" + row(74) + "\r\n", api.ErrForm},
	}
	for _, x := range cases {
		if got := Check([]byte(x.s)); got != x.want {
			t.Errorf("Check(%q) = %d, want %d", x.s, got, x.want)
		}
	}
}

func TestSoftCases(t *testing.T) {
	cases := []struct {
		s    string
		want int
	}{
		{"", 0}, {"\r\n", 0}, {"a\r\n", 0}, {"=\r\n", 1}, {"a=\r\n", 1}, {"a=\r\nb=\r\nc\r\n", 2}, {"=\r\n=\r\n=\r\n", 3},
		// A line that does not end, or not so.
		{"=", 0}, {"a=", 0}, {"=\r\n=", 1}, {"=\r", 0}, {"=\n", 0}, {"=\n\r\n", 0}, {"=\r\r\n", 0}, {"=\n\r", 0}, {"=\n=\r\n", 1},
		// Not by its last octet.
		{"= \r\n", 0}, {"=3D\r\n", 0}, {"a=b\r\n", 0}, {"=3D=\r\n", 1}, {"=\t\r\n", 0},
		// Lines that are wrong count, too.
		{"==\r\n", 1}, {"\xff=\r\n", 1}, {row(100) + "=\r\n", 1}, {"a\rb=\r\n", 1},
		{"a\r\n=\r\nb\r\n=\r\n", 2},
	}
	for _, x := range cases {
		if got := Soft([]byte(x.s)); got != x.want {
			t.Errorf("Soft(%q) = %d, want %d", x.s, got, x.want)
		}
		checkTold(t, []byte(x.s))
	}
}

func TestCheckOfEveryShortList(t *testing.T) {
	for many := range 6 {
		every([]byte("=3Da \r\n\xff"), many, func(s []byte) { checkTold(t, s) })
	}
	for many := range 5 {
		every([]byte("=3Dd \t\x80"), many, func(s []byte) {
			checkTold(t, append(slices.Clone(s), "\r\n"...))
			checkTold(t, append(slices.Clone(s), "=\r\nb\r\n"...))
		})
	}
}

func TestCheckOfEveryEscape(t *testing.T) {
	right := 0
	every(allOctets(), 2, func(s []byte) {
		line := slices.Concat([]byte("a="), s, []byte("b\r\n"))
		checkTold(t, line)
		if Check(line) == api.OK {
			right++
		}
		checkTold(t, slices.Concat([]byte("="), s, []byte("\r\n")))
	})
	// All escapes with capitals, and an end right behind the sign.
	if right != 16*16+1 {
		t.Errorf("%d lines are right, want 257", right)
	}
}

func TestCheckOfEveryOctetAtEachPlace(t *testing.T) {
	for _, of := range []string{"ab\r\n", "=3D\r\n", "a=\r\nb\r\n", "a =\r\n", row(76) + "\r\n", row(75) + "=\r\n" + row(3) + "\r\n"} {
		for at := range len(of) + 1 {
			for _, c := range allOctets() {
				checkTold(t, slices.Concat([]byte(of[:at]), []byte{c}, []byte(of[at:])))
				if at < len(of) {
					checkTold(t, slices.Concat([]byte(of[:at]), []byte{c}, []byte(of[at+1:])))
				}
			}
			checkTold(t, []byte(of[:at]))
			checkTold(t, []byte(of[at:]))
		}
	}
}

func TestCheckOfEachLength(t *testing.T) {
	for many := range 160 {
		for _, end := range []string{"", "\r\n", "=\r\n", " \r\n", "=3D\r\n", "=3d\r\n", "\r", "\n", "=", "\n\r\n", "\r\nb\r\n", "=\r\nb"} {
			checkTold(t, []byte(row(many)+end))
			checkTold(t, []byte("a=\r\n"+row(many)+end))
			checkTold(t, []byte(row(76)+"\r\n"+row(many)+end))
		}
	}
}

func TestCheckOfLongerLists(t *testing.T) {
	for _, of := range []string{"a\r\n", "aaaaaaaaaaaaaaaaaaaaaaaaaaaaa=\r\n", "abc \t", "=3D", string(allOctets())} {
		for many := range 300 {
			s := someOctets([]byte(of), many)
			checkTold(t, s)
			checkTold(t, bytes.ReplaceAll(s, []byte("\r"), []byte("\r\n")))
		}
	}
}

// P18.3

func TestWhatIsLaidIsRight(t *testing.T) {
	one := func(s []byte) {
		out := Lay(s)
		if err := Check(out); err != api.OK {
			t.Fatalf("Lay(%q) = %q, of which Check tells %d", s, out, err)
		}
		for _, line := range bytes.Split(out, []byte("\r\n")) {
			if len(line) > 76 {
				t.Fatalf("Lay(%q) has a line of %d octets", s, len(line))
			}
		}
		got, err := io.ReadAll(quotedprintable.NewReader(bytes.NewReader(out)))
		if err != nil || !bytes.Equal(got, Breaks(s)) {
			t.Fatalf("Lay(%q) = %q, which the library reads as %q, %v", s, out, got, err)
		}
	}
	for many := range 6 {
		every([]byte("a= \r\n\xff"), many, one)
	}
	for many := range 600 {
		one(someOctets(allOctets(), many))
		one(someOctets([]byte("ab= \t\r\n"), many))
		one([]byte(row(many)))
		one(bytes.Repeat([]byte(" "), many))
		one(bytes.Repeat([]byte{255}, many))
		one(append([]byte(row(many)), " \n"...))
	}
	one(someOctets(allOctets(), 1<<16))
}

// As many lines are soft as are no breaks of the octets.
func TestSoftOfWhatIsLaid(t *testing.T) {
	for many := range 500 {
		s := someOctets([]byte("aaaaaaaaaaaaaaaaaaaaaaaaaaaaaaaaa=  \r\n"), many)
		out := Lay(s)
		all, hard := bytes.Count(out, []byte("\r\n")), bytes.Count(Breaks(s), []byte("\r\n"))
		if got := Soft(out); got != all-hard {
			t.Errorf("Soft(%q) = %d, want %d", out, got, all-hard)
		}
	}
}

func TestBreaksAgain(t *testing.T) {
	for many := range 7 {
		every([]byte("a \r\n="), many, func(s []byte) {
			once := Breaks(s)
			if got := Breaks(once); !bytes.Equal(got, once) {
				t.Fatalf("Breaks(%q) = %q, and of that %q", s, once, got)
			}
			if got, want := Lay(once), Lay(s); !bytes.Equal(got, want) {
				t.Fatalf("Lay(%q) = %q, but %q of %q", once, got, want, s)
			}
		})
	}
}

// R5: nil and empty lists.
func TestNilAndEmpty(t *testing.T) {
	for _, s := range [][]byte{nil, {}, make([]byte, 0, 8)} {
		for i, call := range calls() {
			if got := call(s); len(got) != 0 {
				t.Errorf("call %d of nothing = %q", i, got)
			}
		}
		if many, soft, err := Len(s), Soft(s), Check(s); many != 0 || soft != 0 || err != api.OK {
			t.Errorf("of nothing there are %d octets, %d soft lines, and error %d", many, soft, err)
		}
	}
}

// calls are those that answer a list, each of them as one of a list alone.
func calls() []func(s []byte) []byte {
	return []func(s []byte) []byte{Lay, Breaks}
}

// samples are lists that are short and long, with breaks and without.
func samples() []string {
	return []string{"", "a", " ", "=", "\r", "\n", "a= \n", "a\rb\nc\r\n", "\xff", row(75), row(76), row(200) + " \n", "a=\r\n", "=3D\r\n", "a =\r\n", string(someOctets(allOctets(), 300))}
}

// R3: the same again, whatever capacity a list has, and whatever stands behind its end.
func TestSameAnswersAgain(t *testing.T) {
	for _, s := range samples() {
		alone := slices.Clip([]byte(s))
		for range 3 {
			for i, call := range calls() {
				if got, want := call(roomy([]byte(s))), call(alone); !bytes.Equal(got, want) {
					t.Errorf("call %d of %q answers %q, and then %q", i, s, want, got)
				}
			}
			with := roomy([]byte(s))
			if Len(with) != Len(alone) || Soft(with) != Soft(alone) || Check(with) != Check(alone) {
				t.Errorf("of %q with room behind it something else is told", s)
			}
		}
	}
}

// R4: lists are left as they are, and answers share nothing.

func TestListsAreLeft(t *testing.T) {
	for _, text := range samples() {
		as := []byte(text)
		s := roomy(as)
		for _, call := range calls() {
			call(s)
		}
		Check(s)
		Soft(s)
		Len(s)
		if !untouched(s, as) {
			t.Errorf("%q was written into: %q", as, s[:cap(s)])
		}
	}
}

func TestAnswersShareNothing(t *testing.T) {
	for i, call := range calls() {
		for _, text := range samples() {
			as := []byte(text)
			s := roomy(as)
			first := call(s)
			want := slices.Clone(first)
			writeOver(first)
			if !untouched(s, as) {
				t.Errorf("call %d of %q answers what it was handed", i, as)
			}
			second := call(s)
			if !bytes.Equal(second, want) {
				t.Errorf("call %d of %q answers %q after a write, %q ahead", i, as, second, want)
			}
			writeOver(s)
			if !bytes.Equal(second, want) {
				t.Errorf("call %d of %q keeps what it was handed", i, as)
			}
		}
	}
}

func TestUnitsShareNothing(t *testing.T) {
	for _, c := range allOctets() {
		for _, ends := range []bool{false, true} {
			first := Unit(c, ends)
			want := slices.Clone(first)
			writeOver(first)
			if got := Unit(c, ends); !bytes.Equal(got, want) {
				t.Errorf("Unit(%d, %v) = %q after a write, %q ahead", c, ends, got, want)
			}
		}
	}
}
