package bwrap

import (
	"bytes"
	"encoding/base64"
	"math"
	"slices"
	"strings"
	"testing"

	"sheave/api"
	"sheave/bcode"
	"sheave/bloose"
)

// alphabet writes the digits out, in their order.
const alphabet = "ABCDEFGHIJKLMNOPQRSTUVWXYZ" + "abcdefghijklmnopqrstuvwxyz" + "0123456789" + "+/"

// laid are the lines that are expected, by the library's code and a cut from line to line.
func laid(s []byte) string {
	code := base64.StdEncoding.EncodeToString(s)
	out := ""
	for len(code) > 76 {
		out += code[:76] + "\r\n"
		code = code[76:]
	}
	if code != "" {
		out += code + "\r\n"
	}
	return out
}

// expectedFault is what Check is expected to tell, line by line and then of the digits.
func expectedFault(s []byte) api.Errno {
	parts := strings.Split(string(s), "\r\n")
	last := len(parts) - 1
	for i, line := range parts {
		if len(line) > 76 {
			return api.ErrLong
		}
		if i < last && line == "" {
			return api.ErrForm
		}
		if i == last && line != "" {
			return api.ErrEnd
		}
	}
	return codeFault(strings.Join(parts, ""))
}

// codeFault is what layer 14 tells of a code, by its chapter's words.
func codeFault(code string) api.Errno {
	bare := code
	for range 2 {
		bare = strings.TrimSuffix(bare, "=")
	}
	for i := range len(bare) {
		if strings.IndexByte(alphabet, bare[i]) < 0 {
			return api.ErrForm
		}
	}
	if len(code)%4 != 0 {
		return api.ErrEnd
	}
	if _, err := base64.StdEncoding.Strict().DecodeString(code); err != nil {
		return api.ErrForm
	}
	return api.OK
}

// check holds Check and Read of a list against what is expected.
func check(t *testing.T, s []byte) {
	t.Helper()
	want := expectedFault(s)
	if got := Check(s); got != want {
		t.Fatalf("Check(%q) = %d, want %d", s, got, want)
	}
	var octets []byte
	if want == api.OK {
		octets, _ = base64.StdEncoding.DecodeString(strings.ReplaceAll(string(s), "\r\n", ""))
	}
	got, err := Read(s)
	if err != want || !bytes.Equal(got, octets) {
		t.Fatalf("Read(%q) = %v, %d, want %v, %d", s, got, err, octets, want)
	}
}

// every hands on all lists of these octets of so many elements.
func every(of []byte, many int, do func(s []byte)) {
	s := make([]byte, many)
	var from func(at int)
	from = func(at int) {
		if at == many {
			do(s)
			return
		}
		for _, c := range of {
			s[at] = c
			from(at + 1)
		}
	}
	from(0)
}

func allOctets() []byte {
	s := make([]byte, 256)
	for c := range s {
		s[c] = byte(c)
	}
	return s
}

// someOctets is a row of octets of that length that has no short period.
func someOctets(many int) []byte {
	s := make([]byte, many)
	x := uint32(many) + 1
	for i := range s {
		x = x*1664525 + 1013904223
		s[i] = byte(x >> 24)
	}
	return s
}

// row is a line of so many digits, without an end.
func row(many int) string {
	return strings.Repeat("A", many)
}

// roomy is a list with room behind its end, that is full of something.
func roomy(s []byte) []byte {
	whole := bytes.Repeat([]byte{'R'}, len(s)+32)
	copy(whole, s)
	return whole[:len(s)]
}

// untouched tells whether such a list and its room are as they were.
func untouched(s, as []byte) bool {
	room := s[len(s):cap(s)]
	return bytes.Equal(s, as) && bytes.Equal(room, bytes.Repeat([]byte{'R'}, len(room)))
}

// writeOver fills a list to its capacity, so that memory that is shared shows.
func writeOver(s []byte) {
	s = s[:cap(s)]
	for i := range s {
		s[i] = 'X'
	}
}

// P16.1

func TestLayCases(t *testing.T) {
	zeros := func(many int) string { return string(make([]byte, many)) }
	cases := []struct {
		s, want string
	}{
		{"", ""},
		{"f", "Zg==\r\n"},
		{"fo", "Zm8=\r\n"},
		{"foo", "Zm9v\r\n"},
		{"foobar", "Zm9vYmFy\r\n"},
		{"\xff\xff\xff", "////\r\n"},
		{"\r\n", "DQo=\r\n"},
		// About where one line ends, and the next one.
		{zeros(54), row(72) + "\r\n"},
		{zeros(55), row(74) + "==\r\n"},
		{zeros(56), row(75) + "=\r\n"},
		{zeros(57), row(76) + "\r\n"},
		{zeros(58), row(76) + "\r\nAA==\r\n"},
		{zeros(59), row(76) + "\r\nAAA=\r\n"},
		{zeros(60), row(76) + "\r\nAAAA\r\n"},
		{zeros(113), row(76) + "\r\n" + row(75) + "=\r\n"},
		{zeros(114), row(76) + "\r\n" + row(76) + "\r\n"},
		{zeros(115), row(76) + "\r\n" + row(76) + "\r\nAA==\r\n"},
	}
	for _, x := range cases {
		if got := Lay([]byte(x.s)); string(got) != x.want {
			t.Errorf("Lay(%q) = %q, want %q", x.s, got, x.want)
		}
	}
}

func TestLayOfShortLists(t *testing.T) {
	for many := range 3 {
		every(allOctets(), many, func(s []byte) {
			if got, want := Lay(s), laid(s); string(got) != want {
				t.Fatalf("Lay(%v) = %q, want %q", s, got, want)
			}
		})
	}
}

func TestLayOfLongerLists(t *testing.T) {
	for many := range 600 {
		s := someOctets(many)
		if got, want := Lay(s), laid(s); string(got) != want {
			t.Fatalf("Lay of %d octets = %q, want %q", many, got, want)
		}
	}
}

func TestLayIsTheCodeInFullLines(t *testing.T) {
	for _, many := range []int{1, 57, 58, 1000, 5700, 1 << 18} {
		s := someOctets(many)
		lines := strings.SplitAfter(string(Lay(s)), "\r\n")
		if lines[len(lines)-1] != "" {
			t.Errorf("Lay of %d octets does not end", many)
		}
		lines = lines[:len(lines)-1]
		for i, line := range lines {
			if i < len(lines)-1 && len(line) != 78 || len(line) > 78 || len(line) < 6 {
				t.Errorf("Lay of %d octets has a line of %d with its end", many, len(line))
			}
		}
		if code := strings.ReplaceAll(strings.Join(lines, ""), "\r\n", ""); code != string(bcode.Lay(s)) {
			t.Errorf("the lines of %d octets have another code", many)
		}
	}
}

func TestLengths(t *testing.T) {
	cases := []struct{ n, lines, of int }{
		{math.MinInt, 0, 0}, {-58, 0, 0}, {-57, 0, 0}, {-1, 0, 0}, {0, 0, 0},
		{1, 1, 6}, {2, 1, 6}, {3, 1, 6}, {4, 1, 10},
		{54, 1, 74}, {55, 1, 78}, {56, 1, 78}, {57, 1, 78},
		{58, 2, 84}, {60, 2, 84}, {61, 2, 88}, {113, 2, 156}, {114, 2, 156}, {115, 3, 162},
		{5700, 100, 7800}, {5701, 101, 7806},
		{1<<31 - 1, 37675152, 2938661836},
	}
	for _, x := range cases {
		if got := Lines(x.n); got != x.lines {
			t.Errorf("Lines(%d) = %d, want %d", x.n, got, x.lines)
		}
		if got := Len(x.n); got != x.of {
			t.Errorf("Len(%d) = %d, want %d", x.n, got, x.of)
		}
	}
}

func TestLengthsAreThoseOfLay(t *testing.T) {
	for many := range 600 {
		s := Lay(someOctets(many))
		if got := Len(many); got != len(s) {
			t.Errorf("Len(%d) = %d, want %d", many, got, len(s))
		}
		if got, want := Lines(many), bytes.Count(s, []byte("\r\n")); got != want {
			t.Errorf("Lines(%d) = %d, want %d", many, got, want)
		}
	}
}

// R2: no number leaves its type.
func TestLengthsOfVeryMany(t *testing.T) {
	for _, n := range []int{math.MaxInt, math.MaxInt - 1, math.MaxInt / 4 * 3, math.MaxInt/4*3 + 3} {
		if got, want := Lines(n), (n-1)/57+1; got != want {
			t.Errorf("Lines(%d) = %d, want %d", n, got, want)
		}
		if got := Len(n); got != math.MaxInt {
			t.Errorf("Len(%d) = %d, want the greatest number", n, got)
		}
	}
	// Where the greatest number is reached: full lines that just have room, and the octet behind them.
	full := math.MaxInt / 78 * 57
	if got, want := Len(full), math.MaxInt/78*78; got != want {
		t.Errorf("Len(%d) = %d, want %d", full, got, want)
	}
	before := 0
	for n := full - 200; n < full+400; n++ {
		got := Len(n)
		if got < before {
			t.Fatalf("Len(%d) = %d, and %d of one less", n, got, before)
		}
		before = got
	}
	if before != math.MaxInt {
		t.Errorf("Len(%d) = %d, want the greatest number", full+399, before)
	}
}

// P16.2

func TestCheckCases(t *testing.T) {
	full := row(76) + "\r\n"
	cases := []struct {
		s    string
		want api.Errno
	}{
		{"", api.OK},
		{"Zg==\r\n", api.OK},
		{"Zm8=\r\n", api.OK},
		{"Zm9v\r\n", api.OK},
		{full, api.OK},
		{full + full, api.OK},
		{full + "AA==\r\n", api.OK},
		// Lines may be shorter than they are laid, and part the groups.
		{"Zm9v\r\nZm9v\r\n", api.OK},
		{"Z\r\ng\r\n=\r\n=\r\n", api.OK},
		{"Zg=\r\n=\r\n", api.OK},
		{"Zm9\r\nvZ\r\nm8=\r\n", api.OK},
		{full + row(72) + "\r\n" + full, api.OK},
		// Lines that are too long.
		{row(77) + "\r\n", api.ErrLong},
		{row(80) + "\r\n", api.ErrLong},
		{full + row(80) + "\r\n", api.ErrLong},
		{row(80) + "\r\n" + full, api.ErrLong},
		{row(77), api.ErrLong},
		{row(80), api.ErrLong},
		{full + row(77), api.ErrLong},
		{row(76) + "\r", api.ErrLong},
		{row(76) + "\n", api.ErrLong},
		{row(76) + "\r\r\n", api.ErrLong},
		{row(75) + "*=\r\n", api.ErrLong},
		{strings.Repeat("*", 77), api.ErrLong},
		// Lines that are empty.
		{"\r\n", api.ErrForm},
		{"\r\n\r\n", api.ErrForm},
		{"\r\nZg==\r\n", api.ErrForm},
		{"Zg==\r\n\r\n", api.ErrForm},
		{"Zm9v\r\n\r\nZm9v\r\n", api.ErrForm},
		{full + "\r\n", api.ErrForm},
		// A line that does not end.
		{"Z", api.ErrEnd},
		{"Zg==", api.ErrEnd},
		{"Zg==\r", api.ErrEnd},
		{"Zg==\n", api.ErrEnd},
		{"Zg==\n\r", api.ErrEnd},
		{"\r", api.ErrEnd},
		{"\n", api.ErrEnd},
		{"\n\r", api.ErrEnd},
		{"*", api.ErrEnd},
		{"=", api.ErrEnd},
		{row(76), api.ErrEnd},
		{row(75) + "\r", api.ErrEnd},
		{full + row(76), api.ErrEnd},
		{full + "\r", api.ErrEnd},
		{"Zm9v\r\nZ", api.ErrEnd},
		// The code's own faults, behind all lines.
		{"Zh==\r\n", api.ErrForm},
		{"Zm9=\r\n", api.ErrForm},
		{"Z g=\r\n", api.ErrForm},
		{"Zg==Zm9v\r\n", api.ErrForm},
		{"Zg==\r\nZm9v\r\n", api.ErrForm},
		{"Zm9v\r\n====\r\n", api.ErrForm},
		{"A===\r\n", api.ErrForm},
		{"*\r\n", api.ErrForm},
		{"\r\r\n", api.ErrForm},
		{"\n\r\n", api.ErrForm},
		{"Zm9v\rZm9v\r\n", api.ErrForm},
		{"Zm9v\nZm9v\r\n", api.ErrForm},
		{"Zg==\r\r\n", api.ErrForm},
		{" Zg==\r\n", api.ErrForm},
		{"Zg== \r\n", api.ErrForm},
		{"Z\r\n", api.ErrEnd},
		{"Zg\r\n", api.ErrEnd},
		{"Zg=\r\n", api.ErrEnd},
		{"Zm8\r\n", api.ErrEnd},
		{"Zm9vY\r\n", api.ErrEnd},
		{"=\r\n", api.ErrEnd},
		{"==\r\n", api.ErrEnd},
		{full + "A\r\n", api.ErrEnd},
		{row(73) + "\r\n", api.ErrEnd},
	}
	for _, x := range cases {
		if got := Check([]byte(x.s)); got != x.want {
			t.Errorf("Check(%q) = %d, want %d", x.s, got, x.want)
		}
		check(t, []byte(x.s))
	}
}

// The lines are gone through in their order, and the code behind all of them.
func TestWhichFaultIsTold(t *testing.T) {
	long, empty, open, strange, short := row(77)+"\r\n", "\r\n", "Z", "****\r\n", "A\r\n"
	cases := []struct {
		s    string
		want api.Errno
	}{
		{long + empty, api.ErrLong},
		{long + open, api.ErrLong},
		{long + strange, api.ErrLong},
		{empty + long, api.ErrForm},
		{empty + open, api.ErrForm},
		{empty + short, api.ErrForm},
		{empty + row(77), api.ErrForm},
		{strange + long, api.ErrLong},
		{strange + open, api.ErrEnd},
		{strange + empty, api.ErrForm},
		{short + long, api.ErrLong},
		{short + empty, api.ErrForm},
		{short + open, api.ErrEnd},
		{short + strange, api.ErrForm},
		{strange + short, api.ErrForm},
		{"Zh==\r\n" + long, api.ErrLong},
		{"Zh==\r\n" + short, api.ErrForm},
		{"Zh==\r\n" + open, api.ErrEnd},
	}
	for _, x := range cases {
		if got := Check([]byte(x.s)); got != x.want {
			t.Errorf("Check(%q) = %d, want %d", x.s, got, x.want)
		}
		check(t, []byte(x.s))
	}
}

func TestReadCases(t *testing.T) {
	cases := []struct {
		s, want string
	}{
		{"", ""},
		{"Zg==\r\n", "f"},
		{"Zm8=\r\n", "fo"},
		{"Zm9v\r\nYmFy\r\n", "foobar"},
		{"Z\r\ng\r\n=\r\n=\r\n", "f"},
		{"Zm9vY\r\nmFy\r\n", "foobar"},
		{row(76) + "\r\nAA==\r\n", string(make([]byte, 58))},
	}
	for _, x := range cases {
		if got, err := Read([]byte(x.s)); err != api.OK || string(got) != x.want {
			t.Errorf("Read(%q) = %q, %d, want %q", x.s, got, err, x.want)
		}
	}
}

func TestLinesOfEachLength(t *testing.T) {
	for many := range 160 {
		for _, end := range []string{"", "\r\n", "\r", "\n", "\n\r", "\r\r\n", "\r\n\r\n", "=\r\n", "==\r\n", "\r\nA"} {
			check(t, []byte(row(many)+end))
			check(t, []byte(row(76)+"\r\n"+row(many)+end))
			check(t, []byte(row(many)+"\r\n"+row(76)+end))
		}
	}
}

func TestEveryShortList(t *testing.T) {
	for many := range 3 {
		every(allOctets(), many, func(s []byte) { check(t, s) })
	}
	for many := range 3 {
		every(allOctets(), many, func(s []byte) { check(t, append(slices.Clone(s), "\r\n"...)) })
	}
	for many := range 8 {
		every([]byte("Ah=\r\n"), many, func(s []byte) { check(t, s) })
	}
	for many := range 6 {
		every([]byte("Agw/= \r\n\xff"), many, func(s []byte) { check(t, s) })
	}
}

// Whole lines put together, so that deeper orders of digits and ends are met too.
func TestEveryFewLines(t *testing.T) {
	parts := []string{"A", "AA", "AAAA", "=", "Zg==", "*", "\r\n", "A\r\n", "AAAA\r\n", row(76) + "\r\n", row(77)}
	for many := range 5 {
		of := make([]byte, len(parts))
		for i := range of {
			of[i] = byte(i)
		}
		every(of, many, func(which []byte) {
			var s []byte
			for _, i := range which {
				s = append(s, parts[i]...)
			}
			check(t, s)
		})
	}
}

func TestLinesThatAreSpoilt(t *testing.T) {
	for _, many := range []int{1, 2, 3, 56, 57, 58, 114, 116} {
		s := Lay(someOctets(many))
		for at := range len(s) + 1 {
			check(t, s[:at])
			check(t, s[at:])
			for _, c := range allOctets() {
				check(t, slices.Insert(slices.Clone(s), at, c))
				if at < len(s) {
					other := slices.Clone(s)
					other[at] = c
					check(t, other)
				}
			}
			if at < len(s) {
				check(t, slices.Delete(slices.Clone(s), at, at+1))
			}
		}
	}
}

// P16.3

func TestLooseCases(t *testing.T) {
	cases := []struct {
		s, loose, again string
	}{
		{"", "", ""},
		{"Zg==\r\n", "f", "Zg==\r\n"},
		{"Zg==", "f", "Zg==\r\n"},
		{"Zh==", "f", "Zg==\r\n"},
		{"Z g=junk", "f", "Zg==\r\n"},
		{"Zm\n9v\r\n\r\nYmFy", "foobar", "Zm9vYmFy\r\n"},
		{"Zm9vZ", "foo", "Zm9v\r\n"},
		{"Z", "", ""},
		{"=\r\nZg==\r\n", "", ""},
		{"\r\n", "", ""},
		{"Zg==\r\nZm9v\r\n", "f", "Zg==\r\n"},
		{row(78), string(make([]byte, 58)), row(76) + "\r\nAA==\r\n"},
		{strings.Repeat("A*", 76), string(make([]byte, 57)), row(76) + "\r\n"},
	}
	for _, x := range cases {
		if got := Loose([]byte(x.s)); string(got) != x.loose {
			t.Errorf("Loose(%q) = %q, want %q", x.s, got, x.loose)
		}
		if got := Again([]byte(x.s)); string(got) != x.again {
			t.Errorf("Again(%q) = %q, want %q", x.s, got, x.again)
		}
	}
}

func checkLoose(t *testing.T, s []byte) {
	t.Helper()
	want := bloose.Read(s)
	if got := Loose(s); !bytes.Equal(got, want) {
		t.Fatalf("Loose(%q) = %v, want %v", s, got, want)
	}
	if got := Again(s); string(got) != laid(want) {
		t.Fatalf("Again(%q) = %q, want %q", s, got, laid(want))
	}
}

func TestLooseOfAllOctets(t *testing.T) {
	for many := range 3 {
		every(allOctets(), many, func(s []byte) { checkLoose(t, s) })
	}
	for many := range 7 {
		every([]byte("Ah=\r\n*"), many, func(s []byte) { checkLoose(t, s) })
	}
	for many := range 400 {
		s := someOctets(many)
		checkLoose(t, s)
		checkLoose(t, bytes.ReplaceAll(s, []byte{'='}, []byte{'a'}))
	}
}

// P16.4

func TestWhatIsLaidIsReadBothWays(t *testing.T) {
	one := func(s []byte) {
		lines := Lay(s)
		if err := Check(lines); err != api.OK {
			t.Fatalf("Check(%q) = %d", lines, err)
		}
		if got, err := Read(lines); err != api.OK || !bytes.Equal(got, s) {
			t.Fatalf("Read(%q) = %v, %d, want %v", lines, got, err, s)
		}
		if got := Loose(lines); !bytes.Equal(got, s) {
			t.Fatalf("Loose(%q) = %v, want %v", lines, got, s)
		}
		if got := Again(lines); !bytes.Equal(got, lines) {
			t.Fatalf("Again(%q) = %q", lines, got)
		}
	}
	for many := range 3 {
		every(allOctets(), many, one)
	}
	every([]byte{0, 1, 63, 64, 127, 128, 254, 255}, 4, one)
	for many := range 600 {
		one(someOctets(many))
		one(make([]byte, many))
		one(bytes.Repeat([]byte{255}, many))
	}
	one(someOctets(1 << 18))
}

// Whatever lines are right: they are read the same both ways, and laid as right lines.
func TestRightLinesAreReadTheSame(t *testing.T) {
	right := 0
	for many := range 9 {
		every([]byte("AQ=\r\n"), many, func(s []byte) {
			want, err := Read(s)
			if err != api.OK {
				return
			}
			right++
			if got := Loose(s); !bytes.Equal(got, want) {
				t.Fatalf("Loose(%q) = %v, want %v", s, got, want)
			}
			if got := Again(s); Check(got) != api.OK {
				t.Fatalf("Again(%q) = %q is not right", s, got)
			}
		})
	}
	if right < 50 {
		t.Errorf("%d lists are right", right)
	}
}

// R1: with an error there are no octets.
func TestNothingBesideAnError(t *testing.T) {
	for _, s := range []string{"Zg==", "\r\n", "Zm9v\r\nZ\r\n", "Zm9v\r\n\r\n", "Zh==\r\n", row(77) + "\r\n", "Zm9v\r\n*\r\n"} {
		if got, err := Read([]byte(s)); err == api.OK || got != nil {
			t.Errorf("Read(%q) = %v, %d", s, got, err)
		}
	}
}

// R5: nil and empty lists.
func TestNilAndEmpty(t *testing.T) {
	for _, s := range [][]byte{nil, {}, make([]byte, 0, 8)} {
		if got := Lay(s); len(got) != 0 {
			t.Errorf("Lay of nothing = %q", got)
		}
		if got := Check(s); got != api.OK {
			t.Errorf("Check of nothing = %d", got)
		}
		if got, err := Read(s); len(got) != 0 || err != api.OK {
			t.Errorf("Read of nothing = %v, %d", got, err)
		}
		if got := Loose(s); len(got) != 0 {
			t.Errorf("Loose of nothing = %v", got)
		}
		if got := Again(s); len(got) != 0 {
			t.Errorf("Again of nothing = %q", got)
		}
	}
}

// calls are those that answer a list, each of them as one of a list alone.
func calls() []func(s []byte) []byte {
	read := func(s []byte) []byte {
		out, _ := Read(s)
		return out
	}
	return []func(s []byte) []byte{Lay, read, Loose, Again}
}

// samples are lists that are right, wrong, short and longer than a line.
func samples() []string {
	long := laid(someOctets(100))
	return []string{"", "f", "Zg==\r\n", "Zm9v\r\n", "Zm9vYmFy\r\n", "Zh==\r\n", "Zg==", "Z g=junk", "\r\n", "Zm9v\r\n\r\n", long, long + "A", row(80)}
}

// R3: the same again, whatever capacity a list has.
func TestSameAnswersAgain(t *testing.T) {
	for i, call := range calls() {
		for _, s := range samples() {
			want := call(slices.Clip([]byte(s)))
			for range 3 {
				if got := call(roomy([]byte(s))); !bytes.Equal(got, want) {
					t.Errorf("call %d of %q answers %q, and then %q", i, s, want, got)
				}
			}
			if got, want := Check(roomy([]byte(s))), Check([]byte(s)); got != want {
				t.Errorf("Check(%q) = %d, and %d with no room", s, got, want)
			}
		}
	}
}

// R4: lists are left as they are, and answers share nothing.

func TestListsAreLeft(t *testing.T) {
	for _, text := range samples() {
		as := []byte(text)
		s := roomy(as)
		for _, call := range calls() {
			call(s)
		}
		Check(s)
		if !untouched(s, as) {
			t.Errorf("%q was written into: %q", as, s[:cap(s)])
		}
	}
}

func TestAnswersShareNothing(t *testing.T) {
	for i, call := range calls() {
		for _, text := range samples() {
			as := []byte(text)
			s := roomy(as)
			first := call(s)
			want := slices.Clone(first)
			writeOver(first)
			if !untouched(s, as) {
				t.Errorf("call %d of %q answers what it was handed", i, as)
			}
			second := call(s)
			if !bytes.Equal(second, want) {
				t.Errorf("call %d of %q answers %q after a write, %q ahead", i, as, second, want)
			}
			writeOver(s)
			if !bytes.Equal(second, want) {
				t.Errorf("call %d of %q keeps what it was handed", i, as)
			}
		}
	}
}
