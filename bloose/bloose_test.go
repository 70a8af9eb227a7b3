package bloose

import (
	"bytes"
	"encoding/base64"
	"fmt"
	"slices"
	"strings"
	"testing"

	"sheave/api"
	"sheave/bcode"
)

// alphabet writes the digits out, in their order.
const alphabet = "ABCDEFGHIJKLMNOPQRSTUVWXYZ" + "abcdefghijklmnopqrstuvwxyz" + "0123456789" + "+/"

// answers are what all calls tell of a list.
type answers struct {
	read, digits, clean  string
	dropped, strange, of int
}

func (a answers) String() string {
	return fmt.Sprintf("%q (Len %d) of the digits %q, clean %q, %d dropped, %d strange", a.read, a.of, a.digits, a.clean, a.dropped, a.strange)
}

// expected tells them by a text of bits, one by one.
func expected(s []byte) answers {
	var out answers
	var bits []int
	for _, c := range s {
		if c == '=' {
			break
		}
		n := strings.IndexByte(alphabet, c)
		if n < 0 {
			out.strange++
			continue
		}
		out.digits += string(alphabet[n])
		for _, weight := range []int{32, 16, 8, 4, 2, 1} {
			bits = append(bits, n/weight%2)
		}
	}
	for len(bits) >= 8 {
		x := 0
		for _, bit := range bits[:8] {
			x = 2*x + bit
		}
		out.read += string([]byte{byte(x)})
		bits = bits[8:]
	}
	out.clean = base64.StdEncoding.EncodeToString([]byte(out.read))
	out.dropped = len(bits)
	out.of = len(out.read)
	return out
}

// told is what the calls answer of a list.
func told(s []byte) answers {
	return answers{
		read: string(Read(s)), digits: string(Digits(s)), clean: string(Clean(s)),
		dropped: Dropped(s), strange: Strange(s), of: Len(s),
	}
}

// check holds what the calls answer against what is expected.
func check(t *testing.T, s []byte) {
	t.Helper()
	if got, want := told(s), expected(s); got != want {
		t.Fatalf("of %q is told %v, want %v", s, got, want)
	}
}

// every hands on all lists of these octets of so many elements.
func every(of []byte, many int, do func(s []byte)) {
	s := make([]byte, many)
	var from func(at int)
	from = func(at int) {
		if at == many {
			do(s)
			return
		}
		for _, c := range of {
			s[at] = c
			from(at + 1)
		}
	}
	from(0)
}

func allOctets() []byte {
	s := make([]byte, 256)
	for c := range s {
		s[c] = byte(c)
	}
	return s
}

// strangers are the octets that are passed over.
func strangers() []byte {
	return slices.DeleteFunc(allOctets(), func(c byte) bool {
		return c == '=' || strings.IndexByte(alphabet, c) >= 0
	})
}

// someOctets is a row of octets of that length that has no short period.
func someOctets(many int) []byte {
	s := make([]byte, many)
	x := uint32(many) + 1
	for i := range s {
		x = x*1664525 + 1013904223
		s[i] = byte(x >> 24)
	}
	return s
}

// roomy is a list with room behind its end, that is full of something.
func roomy(s []byte) []byte {
	whole := bytes.Repeat([]byte{'R'}, len(s)+32)
	copy(whole, s)
	return whole[:len(s)]
}

// untouched tells whether such a list and its room are as they were.
func untouched(s, as []byte) bool {
	room := s[len(s):cap(s)]
	return bytes.Equal(s, as) && bytes.Equal(room, bytes.Repeat([]byte{'R'}, len(room)))
}

// writeOver fills a list to its capacity, so that memory that is shared shows.
func writeOver(s []byte) {
	s = s[:cap(s)]
	for i := range s {
		s[i] = 'X'
	}
}

// P15.1, P15.2

func TestCases(t *testing.T) {
	cases := []struct {
		s    string
		want answers
	}{
		// The example, and what DOC.md says of bits that are not 0.
		{"Z g=junk", answers{"f", "Zg", "Zg==", 4, 1, 1}},
		{"Zh==", answers{"f", "Zh", "Zg==", 4, 0, 1}},
		// Strict codes.
		{"Zg==", answers{"f", "Zg", "Zg==", 4, 0, 1}},
		{"Zm8=", answers{"fo", "Zm8", "Zm8=", 2, 0, 2}},
		{"Zm9v", answers{"foo", "Zm9v", "Zm9v", 0, 0, 3}},
		{"Zm9vYg==", answers{"foob", "Zm9vYg", "Zm9vYg==", 4, 0, 4}},
		{"Zm9vYmFy", answers{"foobar", "Zm9vYmFy", "Zm9vYmFy", 0, 0, 6}},
		// Digits of any number, with what fills up and without.
		{"Z", answers{"", "Z", "", 6, 0, 0}},
		{"Z=", answers{"", "Z", "", 6, 0, 0}},
		{"Zg", answers{"f", "Zg", "Zg==", 4, 0, 1}},
		{"Zg=", answers{"f", "Zg", "Zg==", 4, 0, 1}},
		{"Zm8", answers{"fo", "Zm8", "Zm8=", 2, 0, 2}},
		{"Zm9vY", answers{"foo", "Zm9vY", "Zm9v", 6, 0, 3}},
		{"Zm9vY===", answers{"foo", "Zm9vY", "Zm9v", 6, 0, 3}},
		{"/", answers{"", "/", "", 6, 0, 0}},
		{"//", answers{"\xff", "//", "/w==", 4, 0, 1}},
		{"///", answers{"\xff\xff", "///", "//8=", 2, 0, 2}},
		{"////", answers{"\xff\xff\xff", "////", "////", 0, 0, 3}},
		{"/////", answers{"\xff\xff\xff", "/////", "////", 6, 0, 3}},
		{"AAA", answers{"\x00\x00", "AAA", "AAA=", 2, 0, 2}},
		// The first sign that fills up ends all, wherever it stands.
		{"=", answers{}},
		{"====", answers{}},
		{"=Zg==", answers{}},
		{"=*", answers{}},
		{"*=*", answers{strange: 1}},
		{"Z=g=", answers{"", "Z", "", 6, 0, 0}},
		{"Zg==Zm9v", answers{"f", "Zg", "Zg==", 4, 0, 1}},
		{"Zm9v=Zm9v", answers{"foo", "Zm9v", "Zm9v", 0, 0, 3}},
		{"Zg=\r\n=", answers{"f", "Zg", "Zg==", 4, 0, 1}},
		{"Zg\r\n==\r\n", answers{"f", "Zg", "Zg==", 4, 2, 1}},
		// What is passed over, and what only looks like a digit.
		{" ", answers{strange: 1}},
		{"\r\n", answers{strange: 2}},
		{"Zm\r\n9v\r\n", answers{"foo", "Zm9v", "Zm9v", 0, 4, 3}},
		{"-_,.:[`{@", answers{strange: 9}},
		{"*Z*m*9*v*", answers{"foo", "Zm9v", "Zm9v", 0, 5, 3}},
		{"\x00\x80\xc1\xda\xff", answers{strange: 5}},
		{"Z\xc3\xa9g", answers{"f", "Zg", "Zg==", 4, 2, 1}},
		{"\xef\xbb\xbfZg==", answers{"f", "Zg", "Zg==", 4, 3, 1}},
	}
	for _, x := range cases {
		if got := told([]byte(x.s)); got != x.want {
			t.Errorf("of %q is told %v, want %v", x.s, got, x.want)
		}
	}
}

func TestEveryOctetAlone(t *testing.T) {
	for _, c := range allOctets() {
		want := answers{strange: 1}
		switch {
		case c == '=':
			want = answers{}
		case c >= 65 && c <= 90, c >= 97 && c <= 122, c >= 48 && c <= 57, c == 43, c == 47:
			want = answers{digits: string([]byte{c}), dropped: 6}
		}
		if got := told([]byte{c}); got != want {
			t.Errorf("of %d is told %v, want %v", c, got, want)
		}
	}
}

func TestEveryTwoOctets(t *testing.T) {
	for many := range 3 {
		every(allOctets(), many, func(s []byte) { check(t, s) })
	}
}

func TestEveryPairOfDigits(t *testing.T) {
	// At each place among four, so that each octet's bits come of both.
	every([]byte(alphabet), 2, func(s []byte) {
		for at := range 3 {
			check(t, slices.Insert([]byte("V/"), at, s...))
		}
	})
}

func TestEveryOctetAtEachPlace(t *testing.T) {
	for _, code := range []string{"Z", "Zg", "Zm8", "Zm9v", "Zm9vY", "Zm9vZg==", "Zm9vZm8=", "Z m\r\n9v=Zg=="} {
		for at := range len(code) + 1 {
			for _, c := range allOctets() {
				check(t, slices.Insert([]byte(code), at, c))
				if at < len(code) {
					s := []byte(code)
					s[at] = c
					check(t, s)
				}
			}
		}
	}
}

func TestEveryShortList(t *testing.T) {
	for many := range 9 {
		every([]byte("A/=*"), many, func(s []byte) { check(t, s) })
	}
	for many := range 6 {
		every([]byte("Qgw+8= \n\xff"), many, func(s []byte) { check(t, s) })
	}
}

func TestLongerLists(t *testing.T) {
	for many := range 300 {
		s := someOctets(many)
		check(t, s)
		// Without the sign that ends all, and of digits alone.
		check(t, bytes.ReplaceAll(s, []byte{'='}, []byte{'a'}))
		for i, c := range s {
			s[i] = alphabet[c%64]
		}
		check(t, s)
		check(t, append(s, "=abc"...))
	}
}

func TestVeryLongLists(t *testing.T) {
	for many := 1 << 18; many < 1<<18+5; many++ {
		s := bytes.Repeat([]byte{'/'}, many)
		of := many * 6 / 8
		if got := Read(s); !bytes.Equal(got, bytes.Repeat([]byte{255}, of)) {
			t.Errorf("%d digits are read otherwise", many)
		}
		if got := Digits(s); !bytes.Equal(got, s) {
			t.Errorf("%d digits are others", many)
		}
		if got := Len(s); got != of {
			t.Errorf("%d digits: %d octets, want %d", many, got, of)
		}
		if got := Dropped(s); got != many*6%8 {
			t.Errorf("%d digits: %d bits are left over, want %d", many, got, many*6%8)
		}
		copy(s, bytes.Repeat([]byte{' '}, many))
		if got := told(s); got != (answers{strange: many}) {
			t.Errorf("%d blanks are not passed over", many)
		}
	}
}

func TestDroppedIsOfFourNumbers(t *testing.T) {
	for many, want := range []int{0, 6, 4, 2, 0, 6, 4, 2, 0} {
		s := bytes.Repeat([]byte("w*"), many)
		if got := Dropped(s); got != want {
			t.Errorf("Dropped of %d digits = %d, want %d", many, got, want)
		}
	}
}

func TestCleanIsStrict(t *testing.T) {
	for many := range 8 {
		every([]byte("Ah/=*"), many, func(s []byte) {
			clean := Clean(s)
			if got, err := bcode.Read(clean); err != api.OK || !bytes.Equal(got, Read(s)) {
				t.Fatalf("Clean(%q) = %q, that is read as %v, %d", s, clean, got, err)
			}
			if got := Clean(clean); !bytes.Equal(got, clean) {
				t.Fatalf("Clean(%q) = %q", clean, got)
			}
		})
	}
}

// P15.3

func TestStrictCodesAreReadAsStrictly(t *testing.T) {
	one := func(s []byte) {
		code := bcode.Lay(s)
		want, err := bcode.Read(code)
		if err != api.OK {
			t.Fatalf("%q is no strict code", code)
		}
		if got := Read(code); !bytes.Equal(got, want) || !bytes.Equal(got, s) {
			t.Fatalf("Read(%q) = %v, want %v", code, got, want)
		}
		if got := Clean(code); !bytes.Equal(got, code) {
			t.Fatalf("Clean(%q) = %q", code, got)
		}
		if got := Digits(code); !bytes.Equal(got, bcode.Bare(s)) {
			t.Fatalf("Digits(%q) = %q", code, got)
		}
		if got := Strange(code); got != 0 {
			t.Fatalf("Strange(%q) = %d", code, got)
		}
		if got := Len(code); got != len(s) {
			t.Fatalf("Len(%q) = %d, want %d", code, got, len(s))
		}
		if got := Read(bcode.Bare(s)); !bytes.Equal(got, s) {
			t.Fatalf("%v is read as %v without what fills up", s, got)
		}
	}
	for many := range 3 {
		every(allOctets(), many, one)
	}
	every([]byte{0, 1, 63, 64, 127, 128, 254, 255}, 4, one)
	for many := range 300 {
		one(someOctets(many))
	}
}

func TestEveryRightCodeIsReadAsStrictly(t *testing.T) {
	right := 0
	for many := range 9 {
		every([]byte("AQw=/"), many, func(s []byte) {
			want, err := bcode.Read(s)
			if err != api.OK {
				return
			}
			right++
			if got := Read(s); !bytes.Equal(got, want) {
				t.Fatalf("Read(%q) = %v, want %v", s, got, want)
			}
		})
	}
	if right < 1000 {
		t.Errorf("%d lists are right", right)
	}
}

func TestWhatIsPutBetweenPlaysNoPart(t *testing.T) {
	others := strangers()
	if len(others) != 256-64-1 {
		t.Fatalf("%d octets are passed over", len(others))
	}
	for many := range 10 {
		code := bcode.Lay(someOctets(many))
		for at := range len(bytes.TrimRight(code, "=")) + 1 {
			for _, c := range others {
				checkPut(t, code, at, []byte{c})
			}
			checkPut(t, code, at, others)
			checkPut(t, code, at, []byte("\r\n "))
		}
	}
}

// checkPut asks that what is put into a code turns nothing but how many octets are passed over.
func checkPut(t *testing.T, code []byte, at int, what []byte) {
	t.Helper()
	s := slices.Insert(slices.Clone(code), at, what...)
	want := told(code)
	want.strange += len(what)
	if got := told(s); got != want {
		t.Fatalf("of %q is told %v, want %v", s, got, want)
	}
}

func TestStrangersBetweenAll(t *testing.T) {
	for _, c := range strangers() {
		for many := range 20 {
			octets := someOctets(many)
			s := []byte{c}
			for _, digit := range bcode.Bare(octets) {
				s = append(s, digit, c)
			}
			if got := Read(s); !bytes.Equal(got, octets) {
				t.Fatalf("Read(%q) = %v, want %v", s, got, octets)
			}
		}
	}
}

func TestWhatStandsFromTheEndOnPlaysNoPart(t *testing.T) {
	for many := range 12 {
		s := slices.Insert(bcode.Bare(someOctets(many)), many/2, '*')
		want := told(s)
		for _, c := range allOctets() {
			for _, tail := range [][]byte{{'='}, {'=', c}, {'=', '=', c}, {'=', c, '='}, {'=', c, 'Z', 'g'}} {
				if got := told(slices.Concat(s, tail)); got != want {
					t.Fatalf("of %q and %q is told %v, want %v", s, tail, got, want)
				}
			}
		}
	}
}

// R1, R5: nil and empty lists.

func TestNilAndEmpty(t *testing.T) {
	for _, s := range [][]byte{nil, {}, make([]byte, 0, 8)} {
		if got := told(s); got != (answers{}) {
			t.Errorf("of nothing is told %v", got)
		}
	}
}

// R3: the same again, whatever capacity a list has.

func TestSameAnswersAgain(t *testing.T) {
	for many := range 20 {
		s := slices.Insert(bcode.Lay(someOctets(many)), 0, '*')
		want := told(s)
		for range 3 {
			if got := told(roomy(s)); got != want {
				t.Errorf("of %q is told %v, and then %v", s, want, got)
			}
		}
	}
}

// R4: lists are left as they are, and answers share nothing.

func TestListsAreLeft(t *testing.T) {
	for _, text := range []string{"", "Z", "Zg", "Zm8", "Zm9v", "Zg==", "Zh==", "Z g=junk", "=", "=Zg=", "****", "Zm\r\n9v\r\n"} {
		as := []byte(text)
		s := roomy(as)
		told(s)
		if !untouched(s, as) {
			t.Errorf("%q was written into: %q", as, s[:cap(s)])
		}
	}
}

func TestAnswersShareNothing(t *testing.T) {
	for i, call := range []func(s []byte) []byte{Read, Digits, Clean} {
		for _, text := range []string{"Zg", "Zm9v", "Zg==", "Zm8=", "Zm9vYmFy", "Z g=junk", "\r\nZm9v", "AAAA"} {
			as := []byte(text)
			s := roomy(as)
			first := call(s)
			want := slices.Clone(first)
			writeOver(first)
			if !untouched(s, as) {
				t.Errorf("call %d of %q answers what it was handed", i, as)
			}
			second := call(s)
			if !bytes.Equal(second, want) {
				t.Errorf("call %d of %q answers %q after a write, %q ahead", i, as, second, want)
			}
			writeOver(s)
			if !bytes.Equal(second, want) {
				t.Errorf("call %d of %q keeps what it was handed", i, as)
			}
		}
	}
}
