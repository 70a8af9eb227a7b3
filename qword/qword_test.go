package qword

import (
	"bytes"
	"fmt"
	"mime"
	"regexp"
	"slices"
	"strconv"
	"strings"
	"testing"

	"sheave/api"
)

// stay are the octets that Q leaves as they are.
const stay = "ABCDEFGHIJKLMNOPQRSTUVWXYZabcdefghijklmnopqrstuvwxyz0123456789!*+-/"

// The words of the document as patterns, over octets.
var (
	oneEscape = regexp.MustCompile(`=[0-9A-Fa-f][0-9A-Fa-f]`)
	rightText = regexp.MustCompile(`^([!-<>@-~]|=[0-9A-Fa-f][0-9A-Fa-f])*$`)
)

// answers are what the calls tell of a list.
type answers struct {
	laid    string
	many    int
	read    string
	err     api.Errno
	strange int
}

func (a answers) String() string {
	return fmt.Sprintf("laid %q of %d, read %q, %d, %d strange", a.laid, a.many, a.read, a.err, a.strange)
}

// told is what the calls answer of a list.
func told(s []byte) answers {
	return answers{string(Lay(s)), Len(s), string(Read(s)), Check(s), Strange(s)}
}

// expectedOne is what an octet is expected to be laid as.
func expectedOne(c byte) string {
	switch {
	case c == ' ':
		return "_"
	case strings.IndexByte(stay, c) >= 0:
		return string([]byte{c})
	}
	return fmt.Sprintf("=%02X", c)
}

// expectedRead is what octets are expected to be read as: what stands between escapes, and these.
func expectedRead(s string) string {
	out, from := "", 0
	for _, at := range oneEscape.FindAllStringIndex(s, -1) {
		n, err := strconv.ParseUint(s[at[0]+1:at[1]], 16, 8)
		if err != nil {
			panic(err)
		}
		out += strings.ReplaceAll(s[from:at[0]], "_", " ") + string([]byte{byte(n)})
		from = at[1]
	}
	return out + strings.ReplaceAll(s[from:], "_", " ")
}

// expected is what is expected of a list.
func expected(s []byte) answers {
	out := answers{err: api.ErrForm}
	for _, c := range s {
		out.laid += expectedOne(c)
	}
	out.many = len(out.laid)
	out.read = expectedRead(string(s))
	out.strange = bytes.Count(s, []byte("=")) - len(oneEscape.FindAll(s, -1))
	if rightText.Match(s) {
		out.err = api.OK
	}
	return out
}

// check holds what the calls answer against what is expected, and what follows.
func check(t *testing.T, s []byte) {
	t.Helper()
	got, want := told(s), expected(s)
	if got != want {
		t.Fatalf("of %q is told %v, want %v", s, got, want)
	}
	if len(got.read) > len(s) {
		t.Fatalf("%q is read as the longer %q", s, got.read)
	}
	checkLaid(t, s)
}

// checkLaid looks whether what is laid is read, and right.
func checkLaid(t *testing.T, s []byte) {
	t.Helper()
	laid := Lay(s)
	if got := Read(laid); !bytes.Equal(got, s) {
		t.Fatalf("%q is laid as %q and read as %q", s, laid, got)
	}
	if err, many := Check(laid), Strange(laid); err != api.OK || many != 0 {
		t.Fatalf("%q is laid as %q, of which Check tells %d, and %d are strange", s, laid, err, many)
	}
}

// every hands on all lists of these octets of so many elements.
func every(of []byte, many int, do func(s []byte)) {
	s := make([]byte, many)
	var from func(at int)
	from = func(at int) {
		if at == many {
			do(s)
			return
		}
		for _, c := range of {
			s[at] = c
			from(at + 1)
		}
	}
	from(0)
}

func allOctets() []byte {
	s := make([]byte, 256)
	for c := range s {
		s[c] = byte(c)
	}
	return s
}

// someOctets is a row of so many of these octets that has no short period.
func someOctets(of []byte, many int) []byte {
	s := make([]byte, many)
	x := uint32(many) + 1
	for i := range s {
		x = x*1664525 + 1013904223
		s[i] = of[int(x>>16)%len(of)]
	}
	return s
}

// roomy is a list with room behind its end, that is full of digits, so that an escape would go on there.
func roomy(s []byte) []byte {
	whole := bytes.Repeat([]byte{'4'}, len(s)+32)
	copy(whole, s)
	return whole[:len(s)]
}

// untouched tells whether such a list and its room are as they were.
func untouched(s, as []byte) bool {
	room := s[len(s):cap(s)]
	return bytes.Equal(s, as) && bytes.Equal(room, bytes.Repeat([]byte{'4'}, len(room)))
}

// writeOver fills a list to its capacity, so that memory that is shared shows.
func writeOver(s []byte) {
	s = s[:cap(s)]
	for i := range s {
		s[i] = 'X'
	}
}

// P20.1

func TestLayCases(t *testing.T) {
	cases := []struct{ s, want string }{
		{"a b=", "a_b=3D"},
		{"", ""}, {"a", "a"}, {" ", "_"}, {"  ", "__"}, {" a ", "_a_"}, {"_", "=5F"}, {"a_b c", "a=5Fb_c"}, {"_ _", "=5F_=5F"},
		{"azAZ09!*+-/", "azAZ09!*+-/"}, {"@AZ[", "=40AZ=5B"}, {"`az{", "=60az=7B"}, {"/0:9:", "/0=3A9=3A"},
		// What is printable, and not a word's.
		{"=", "=3D"}, {"?", "=3F"}, {"=3D", "=3D3D"}, {"=?x?=", "=3D=3Fx=3F=3D"}, {"\"#$%&'(),.", "=22=23=24=25=26=27=28=29=2C=2E"}, {":;<>@[\\]^_`{|}~", "=3A=3B=3C=3E=40=5B=5C=5D=5E=5F=60=7B=7C=7D=7E"},
		// Controls, and octets above those of ASCII.
		{"\t", "=09"}, {"\r\n", "=0D=0A"}, {"\x00\x1F\x7F", "=00=1F=7F"}, {"\x80\xA0\xFF", "=80=A0=FF"}, {"\xE9", "=E9"}, {"\xC3\xA9", "=C3=A9"}, {"\xE2\x82\xAC", "=E2=82=AC"},
	}
	for _, x := range cases {
		if got := Lay([]byte(x.s)); string(got) != x.want {
			t.Errorf("Lay(%q) = %q, want %q", x.s, got, x.want)
		}
		if got := Len([]byte(x.s)); got != len(x.want) {
			t.Errorf("Len(%q) = %d, want %d", x.s, got, len(x.want))
		}
		check(t, []byte(x.s))
	}
}

func TestEveryOctetLaid(t *testing.T) {
	short := 0
	for _, c := range allOctets() {
		want := expectedOne(c)
		if got := Lay([]byte{c}); string(got) != want {
			t.Errorf("Lay of %d = %q, want %q", c, got, want)
		}
		if got := One(c); got != len(want) {
			t.Errorf("One(%d) = %d, want %d", c, got, len(want))
		}
		if got := Len([]byte{c}); got != len(want) {
			t.Errorf("Len of %d = %d, want %d", c, got, len(want))
		}
		if One(c) == 1 {
			short++
		} else if One(c) != 3 {
			t.Errorf("One(%d) = %d", c, One(c))
		}
	}
	if want := 26 + 26 + 10 + 5 + 1; short != want {
		t.Errorf("%d octets are laid as one, want %d", short, want)
	}
}

// What is laid of a list is what is laid of its octets, one behind the other.
func TestLayIsOctetByOctet(t *testing.T) {
	for many := range 400 {
		s := someOctets(allOctets(), many)
		var want []byte
		length := 0
		for _, c := range s {
			want = append(want, Lay([]byte{c})...)
			length += One(c)
		}
		if got := Lay(s); !bytes.Equal(got, want) || Len(s) != length || len(want) != length {
			t.Fatalf("Lay(%q) = %q, want %q, of %d or %d", s, got, want, Len(s), length)
		}
	}
}

// P20.2

func TestReadCases(t *testing.T) {
	cases := []struct {
		s, want string
		err     api.Errno
		strange int
	}{
		{"", "", api.OK, 0}, {"a", "a", api.OK, 0}, {"a_b=3D", "a b=", api.OK, 0},
		{"_", " ", api.OK, 0}, {"__", "  ", api.OK, 0}, {"_a_", " a ", api.OK, 0},
		// Escapes, of capitals or not.
		{"=3D", "=", api.OK, 0}, {"=3d", "=", api.OK, 0}, {"=aF=Af=af=AF", "\xAF\xAF\xAF\xAF", api.OK, 0}, {"=00=7f=80=ff", "\x00\x7F\x80\xFF", api.OK, 0}, {"=C3=A9", "\xC3\xA9", api.OK, 0}, {"a=62c", "abc", api.OK, 0}, {"=41", "A", api.OK, 0}, {"=0D=0A", "\r\n", api.OK, 0}, {"=3F", "?", api.OK, 0}, {"=20", " ", api.OK, 0},
		// What an escape makes is read no more.
		{"=5F", "_", api.OK, 0}, {"=5f", "_", api.OK, 0}, {"=5F_", "_ ", api.OK, 0}, {"_=5F", " _", api.OK, 0}, {"=3D20", "=20", api.OK, 0}, {"=3D3D", "=3D", api.OK, 0}, {"=3D=32=30", "=20", api.OK, 0}, {"=3D5F", "=5F", api.OK, 0},
		// None of an escape.
		{"=", "=", api.ErrForm, 1}, {"==", "==", api.ErrForm, 2}, {"===", "===", api.ErrForm, 3}, {"=3", "=3", api.ErrForm, 1}, {"a=", "a=", api.ErrForm, 1}, {"a=4", "a=4", api.ErrForm, 1}, {"=zz", "=zz", api.ErrForm, 1}, {"=3g", "=3g", api.ErrForm, 1}, {"=g3", "=g3", api.ErrForm, 1}, {"=G0", "=G0", api.ErrForm, 1}, {"=/0=:0=@0=`0", "=/0=:0=@0=`0", api.ErrForm, 4}, {"=0/=0:=0@=0`", "=0/=0:=0@=0`", api.ErrForm, 4}, {"=x3D", "=x3D", api.ErrForm, 1}, {"=+1", "=+1", api.ErrForm, 1}, {"=0x1", "=0x1", api.ErrForm, 1},
		{"==3D", "==", api.ErrForm, 1}, {"===41", "==A", api.ErrForm, 2}, {"=3=3D", "=3=", api.ErrForm, 1}, {"=3D=", "==", api.ErrForm, 1}, {"=3D=3", "==3", api.ErrForm, 1}, {"=41=zz=42=", "A=zzB=", api.ErrForm, 2}, {"=a=b=c", "=a=b=c", api.ErrForm, 3},
		// A `_` is no digit, and a blank behind `=` where it is none of an escape.
		{"=_3", "= 3", api.ErrForm, 1}, {"=3_", "=3 ", api.ErrForm, 1}, {"=_", "= ", api.ErrForm, 1}, {"_=", " =", api.ErrForm, 1}, {"=__", "=  ", api.ErrForm, 1}, {"_=3_D", " =3 D", api.ErrForm, 1},
		// No soft end here, and blanks and breaks stay, though they are not right.
		{"=\r\n", "=\r\n", api.ErrForm, 1}, {"a=\nb", "a=\nb", api.ErrForm, 1}, {"= ", "= ", api.ErrForm, 1}, {" ", " ", api.ErrForm, 0}, {"\t", "\t", api.ErrForm, 0}, {"a b", "a b", api.ErrForm, 0}, {"a ", "a ", api.ErrForm, 0}, {" _", "  ", api.ErrForm, 0}, {"\r\n", "\r\n", api.ErrForm, 0}, {"a\n", "a\n", api.ErrForm, 0}, {"=3\nD", "=3\nD", api.ErrForm, 1}, {"=41 ", "A ", api.ErrForm, 0},
		{"\x00", "\x00", api.ErrForm, 0}, {"\x1F\x7F", "\x1F\x7F", api.ErrForm, 0}, {"\x80", "\x80", api.ErrForm, 0}, {"\xFF", "\xFF", api.ErrForm, 0}, {"\xC3\xA9", "\xC3\xA9", api.ErrForm, 0}, {"\xA0", "\xA0", api.ErrForm, 0}, {"=\xC3\xA9", "=\xC3\xA9", api.ErrForm, 1},
		{"?", "?", api.ErrForm, 0}, {"a?b", "a?b", api.ErrForm, 0}, {"=3F?", "??", api.ErrForm, 0}, {"?=", "?=", api.ErrForm, 1}, {"=?3D", "=?3D", api.ErrForm, 1}, {"=?utf-8?Q?a?=", "=?utf-8?Q?a?=", api.ErrForm, 2},
		// All else that is printable is right, though it is laid otherwise.
		{"!\"#$%&'()*+,-./", "!\"#$%&'()*+,-./", api.OK, 0}, {":;<>@[\\]^`{|}~", ":;<>@[\\]^`{|}~", api.OK, 0}, {"%20", "%20", api.OK, 0}, {"+AGE-", "+AGE-", api.OK, 0},
	}
	for _, x := range cases {
		if got := Read([]byte(x.s)); string(got) != x.want {
			t.Errorf("Read(%q) = %q, want %q", x.s, got, x.want)
		}
		if got := Check([]byte(x.s)); got != x.err {
			t.Errorf("Check(%q) = %d, want %d", x.s, got, x.err)
		}
		if got := Strange([]byte(x.s)); got != x.strange {
			t.Errorf("Strange(%q) = %d, want %d", x.s, got, x.strange)
		}
		check(t, []byte(x.s))
	}
}

func TestEveryOctetRead(t *testing.T) {
	right := 0
	for _, c := range allOctets() {
		for _, around := range [][2]string{{"", ""}, {"x", "y"}, {"=41", "=42"}} {
			before, behind := expectedRead(around[0]), expectedRead(around[1])
			s, want := around[0]+string([]byte{c})+around[1], before+string([]byte{c})+behind
			if c == '_' {
				want = before + " " + behind
			}
			if got := Read([]byte(s)); string(got) != want {
				t.Errorf("Read(%q) = %q, want %q", s, got, want)
			}
			err, strange := api.OK, 0
			if c < 33 || c > 126 || c == '?' || c == '=' {
				err = api.ErrForm
			}
			if c == '=' {
				strange = 1
			}
			if Check([]byte(s)) != err || Strange([]byte(s)) != strange {
				t.Errorf("of %q Check tells %d, and %d are strange", s, Check([]byte(s)), Strange([]byte(s)))
			}
		}
		if Check([]byte{c}) == api.OK {
			right++
		}
	}
	if want := 94 - 2; right != want {
		t.Errorf("%d octets are right, want %d", right, want)
	}
}

func TestEveryEscape(t *testing.T) {
	digits := "0123456789abcdef"
	right := 0
	every(allOctets(), 2, func(s []byte) {
		escape := "=" + string(s)
		high, low := strings.Index(digits, strings.ToLower(string(s[:1]))), strings.Index(digits, strings.ToLower(string(s[1:])))
		if high >= 0 && low >= 0 {
			right++
			want := "x" + string([]byte{byte(16*high + low)}) + "y"
			whole := []byte("x" + escape + "y")
			if got := Read(whole); string(got) != want || Check(whole) != api.OK || Strange(whole) != 0 {
				t.Fatalf("%q is read as %q, and Check tells %d", whole, got, Check(whole))
			}
		}
		for _, around := range []string{"", "x", "_", "=", "=4", "?", "=3D"} {
			check(t, []byte(around+escape))
			check(t, []byte(escape+around))
		}
	})
	if right != 22*22 {
		t.Errorf("%d escapes are read, want %d", right, 22*22)
	}
}

func TestEveryTwoOctets(t *testing.T) {
	for many := range 3 {
		every(allOctets(), many, func(s []byte) { check(t, s) })
	}
}

func TestEveryShortList(t *testing.T) {
	for many := range 7 {
		every([]byte("=3d_ ?\xff"), many, func(s []byte) { check(t, s) })
	}
	for many := range 6 {
		every([]byte("=3DgF_\n\x00"), many, func(s []byte) { check(t, s) })
	}
}

func TestEveryOctetAtEachPlace(t *testing.T) {
	for _, of := range []string{"a_b=3D", "=C3=A9", "=5f_=5F", "abc", "a b?=", "==41="} {
		for at := range len(of) + 1 {
			for _, c := range allOctets() {
				check(t, slices.Concat([]byte(of[:at]), []byte{c}, []byte(of[at:])))
				if at < len(of) {
					check(t, slices.Concat([]byte(of[:at]), []byte{c}, []byte(of[at+1:])))
				}
			}
			check(t, []byte(of[:at]))
			check(t, []byte(of[at:]))
		}
	}
}

func TestLongerLists(t *testing.T) {
	kinds := []string{"a", "=", "_", " ", "?", "a_ ", "=3D", "=3d_", "=41_?", "0123456789abcdefABCDEF=", stay + "_", string(allOctets())}
	for _, of := range kinds {
		for many := range 300 {
			check(t, someOctets([]byte(of), many))
		}
	}
}

// A fault is found wherever it stands, and each counts.
func TestFaultsAtEachPlace(t *testing.T) {
	right := strings.Repeat("a_=3D=c3!", 20)
	if err := Check([]byte(right)); err != api.OK {
		t.Fatalf("Check(%q) = %d", right, err)
	}
	for at := range len(right) + 1 {
		for _, fault := range []string{"?", " ", "=", "\x00", "\x7F", "\xFF"} {
			s := []byte(right[:at] + fault + right[at:])
			if err := Check(s); err != api.ErrForm {
				t.Fatalf("Check(%q) = %d", s, err)
			}
		}
	}
	for many := range 100 {
		s := []byte(strings.Repeat(right+"=", many))
		if got := Strange(s); got != many {
			t.Fatalf("Strange of %d strange ones = %d", many, got)
		}
	}
}

// Very many octets are laid and read in a time that grows with them.
func TestVeryLongLists(t *testing.T) {
	many := 1 << 18
	cases := []struct {
		of, laid, read string
		strange        int
	}{
		{"a", "a", "a", 0}, {" ", "_", " ", 0}, {"_", "=5F", " ", 0}, {"=", "=3D", "=", 1}, {"=41", "=3D41", "A", 0}, {"\xFF", "=FF", "\xFF", 0}, {"=z", "=3Dz", "=z", 1},
	}
	for _, x := range cases {
		s := []byte(strings.Repeat(x.of, many))
		if got, want := Lay(s), strings.Repeat(x.laid, many); string(got) != want || Len(s) != len(want) {
			t.Errorf("%q, %d times, is laid otherwise", x.of, many)
		}
		if got, want := Read(s), strings.Repeat(x.read, many); string(got) != want {
			t.Errorf("%q, %d times, is read otherwise", x.of, many)
		}
		if got := Strange(s); got != x.strange*many {
			t.Errorf("%q, %d times, has %d strange ones", x.of, many, got)
		}
	}
}

// P20.3

func TestWhatIsLaidIsRead(t *testing.T) {
	for many := range 3 {
		every(allOctets(), many, func(s []byte) { checkLaid(t, s) })
	}
	for many := range 6 {
		every([]byte("a=_ ?3\xff\n"), many, func(s []byte) { checkLaid(t, s) })
	}
	for many := range 400 {
		checkLaid(t, someOctets(allOctets(), many))
	}
	checkLaid(t, someOctets(allOctets(), 1<<16))
}

// What is laid is read by the library as the same octets, and holds none that would end it there.
func TestWhatIsLaidIsReadByTheLibrary(t *testing.T) {
	one := func(s []byte) {
		laid := string(Lay(s))
		got, err := new(mime.WordDecoder).Decode("=?iso-8859-1?q?" + laid + "?=")
		if err != nil {
			t.Fatalf("%q is laid as %q, of which the library tells %v", s, laid, err)
		}
		signs := []rune(got)
		if len(signs) != len(s) {
			t.Fatalf("%q is laid as %q, and the library reads %q", s, laid, got)
		}
		for i, c := range s {
			if signs[i] != rune(c) {
				t.Fatalf("%q is laid as %q, and the library reads %q", s, laid, got)
			}
		}
	}
	every(allOctets(), 1, one)
	every(allOctets(), 2, one)
	for many := 1; many < 300; many++ {
		one(someOctets(allOctets(), many))
	}
}

// R5: nil and empty lists.
func TestNilAndEmpty(t *testing.T) {
	for _, s := range [][]byte{nil, {}, make([]byte, 0, 8)} {
		if got := told(s); got != (answers{}) {
			t.Errorf("of nothing is told %v", got)
		}
	}
}

// calls are those that answer a list.
func calls() []func(s []byte) []byte {
	return []func(s []byte) []byte{Lay, Read}
}

// samples are lists that stay as they are, and that do not.
func samples() []string {
	return []string{"", "a", " ", "_", "=", "=3", "=3D", "a_b=3D", "a b=", "abc", "?", "\xff", "==", "=4", "a=", strings.Repeat("a", 200), string(someOctets(allOctets(), 300))}
}

// R3: the same again, whatever capacity a list has, and whatever stands behind its end.
func TestSameAnswersAgain(t *testing.T) {
	for _, s := range samples() {
		want := told(slices.Clip([]byte(s)))
		for range 3 {
			if got := told(roomy([]byte(s))); got != want {
				t.Errorf("of %q is told %v, and then %v", s, want, got)
			}
		}
	}
}

// R4: lists are left as they are, and answers share nothing.

func TestListsAreLeft(t *testing.T) {
	for _, text := range samples() {
		as := []byte(text)
		s := roomy(as)
		told(s)
		if !untouched(s, as) {
			t.Errorf("%q was written into: %q", as, s[:cap(s)])
		}
	}
}

func TestAnswersShareNothing(t *testing.T) {
	for i, call := range calls() {
		for _, text := range samples() {
			as := []byte(text)
			s := roomy(as)
			first := call(s)
			want := slices.Clone(first)
			writeOver(first)
			if !untouched(s, as) {
				t.Errorf("call %d of %q answers what it was handed", i, as)
			}
			second := call(s)
			if !bytes.Equal(second, want) {
				t.Errorf("call %d of %q answers %q after a write, %q ahead", i, as, second, want)
			}
			writeOver(s)
			if !bytes.Equal(second, want) {
				t.Errorf("call %d of %q keeps what it was handed", i, as)
			}
		}
	}
}
