package latnine

import (
	"bytes"
	"math"
	"slices"
	"testing"

	"sheave/api"
)

// highSigns are the signs of the octets A0 to FF, in order.
var highSigns = []rune{
	0xA0, 0xA1, 0xA2, 0xA3, 0x20AC, 0xA5, 0x160, 0xA7, 0x161, 0xA9, 0xAA, 0xAB, 0xAC, 0xAD, 0xAE, 0xAF,
	0xB0, 0xB1, 0xB2, 0xB3, 0x17D, 0xB5, 0xB6, 0xB7, 0x17E, 0xB9, 0xBA, 0xBB, 0x152, 0x153, 0x178, 0xBF,
	0xC0, 0xC1, 0xC2, 0xC3, 0xC4, 0xC5, 0xC6, 0xC7, 0xC8, 0xC9, 0xCA, 0xCB, 0xCC, 0xCD, 0xCE, 0xCF,
	0xD0, 0xD1, 0xD2, 0xD3, 0xD4, 0xD5, 0xD6, 0xD7, 0xD8, 0xD9, 0xDA, 0xDB, 0xDC, 0xDD, 0xDE, 0xDF,
	0xE0, 0xE1, 0xE2, 0xE3, 0xE4, 0xE5, 0xE6, 0xE7, 0xE8, 0xE9, 0xEA, 0xEB, 0xEC, 0xED, 0xEE, 0xEF,
	0xF0, 0xF1, 0xF2, 0xF3, 0xF4, 0xF5, 0xF6, 0xF7, 0xF8, 0xF9, 0xFA, 0xFB, 0xFC, 0xFD, 0xFE, 0xFF,
}

// charset are the signs of all octets, in order.
func charset() []rune {
	all := make([]rune, 0xA0)
	for i := range all {
		all[i] = rune(i)
	}
	return append(all, highSigns...)
}

// lacking are signs and numbers that the charset has not: those whose octets
// have other signs here, those beside the other signs, those that are an octet
// or another sign once they are cut to fewer bits, and numbers that are no
// signs.
var lacking = []rune{
	0xA4, 0xA6, 0xA8, 0xB4, 0xB8, 0xBC, 0xBD, 0xBE,
	0x100, 0x101, 0x100 + 'A', 0x151, 0x154, 0x15F, 0x162, 0x177, 0x179, 0x17C, 0x17F, 0x192, 0x1A4,
	0x20AB, 0x20AD, 0xD800, 0xDFFF, 0xFFFD, 0xFFFF,
	0x10000, 0x10000 + 'A', 0x10152, 0x120AC, 0x1F600, api.MaxScalar, api.MaxScalar + 1,
	-1, -2, -92, -128, -255, -256, -256 + 'A', -0x20AC,
	math.MinInt32, math.MinInt32 + 'A', math.MinInt32 + 0x20AC, math.MaxInt32,
}

// rows are all rows of up to most of some numbers.
func rows(of []rune, most int) [][]rune {
	all := [][]rune{nil}
	from := 0
	for range most {
		to := len(all)
		for _, row := range all[from:to] {
			for _, c := range of {
				all = append(all, append(slices.Clone(row), c))
			}
		}
		from = to
	}
	return all
}

// expectedLay tells by the list of all signs what Lay and Lacks answer.
func expectedLay(t []rune) ([]byte, int) {
	signs := charset()
	var octets []byte
	for i, c := range t {
		x := slices.Index(signs, c)
		if x < 0 {
			return nil, i
		}
		octets = append(octets, byte(x))
	}
	return octets, -1
}

// every are all octets.
func every() []byte {
	all := make([]byte, 256)
	for i := range all {
		all[i] = byte(i)
	}
	return all
}

// P9.1

func TestSignsOfTheCharset(t *testing.T) {
	signs := charset()
	if len(signs) != 256 {
		t.Fatalf("the list of signs has %d", len(signs))
	}
	for i, c := range signs {
		if !Has(c) {
			t.Errorf("Has(%X) = false", c)
		}
		if x, ok := Put(c); int(x) != i || !ok {
			t.Errorf("Put(%X) = %X, %v", c, x, ok)
		}
		if got := Sign(byte(i)); got != c {
			t.Errorf("Sign(%X) = %X", i, got)
		}
	}
}

func TestTheEightOthers(t *testing.T) {
	for _, o := range []struct {
		octet byte
		sign  rune
	}{
		{0xA4, 0x20AC}, {0xA6, 0x160}, {0xA8, 0x161}, {0xB4, 0x17D},
		{0xB8, 0x17E}, {0xBC, 0x152}, {0xBD, 0x153}, {0xBE, 0x178},
	} {
		if x, ok := Put(o.sign); x != o.octet || !ok || !Has(o.sign) {
			t.Errorf("Put(%X) = %X, %v", o.sign, x, ok)
		}
		if got := Sign(o.octet); got != o.sign {
			t.Errorf("Sign(%X) = %X", o.octet, got)
		}
		if x, ok := Put(rune(o.octet)); x != 0 || ok || Has(rune(o.octet)) {
			t.Errorf("Put(%X) = %X, %v", o.octet, x, ok)
		}
	}
}

func TestSignsBesideTheCharset(t *testing.T) {
	for _, c := range lacking {
		if Has(c) {
			t.Errorf("Has(%X) = true", c)
		}
		if x, ok := Put(c); x != 0 || ok {
			t.Errorf("Put(%X) = %X, %v", c, x, ok)
		}
	}
}

func TestHasAndPutOverEveryNumberNearTheRange(t *testing.T) {
	place := map[rune]int{}
	for i, c := range charset() {
		place[c] = i
	}
	for c := rune(-0x10000); c <= api.MaxScalar+0x10000; c++ {
		want, in := place[c]
		if x, ok := Put(c); int(x) != want || ok != in || Has(c) != in {
			t.Fatalf("Put(%X) = %X, %v and Has = %v", c, x, ok, Has(c))
		}
	}
}

func TestExample(t *testing.T) {
	if x, ok := Put(0x20AC); x != 0xA4 || !ok {
		t.Errorf("Put(20AC) = %X, %v", x, ok)
	}
	if x, ok := Put(0xA4); x != 0 || ok || Has(0xA4) {
		t.Errorf("Put(A4) = %X, %v", x, ok)
	}
}

// P9.2

func TestLayAndLacks(t *testing.T) {
	some := []rune{0, 'a', 0x7F, 0x80, 0xA4, 0xFF, 0x100, 0x20AC, 0x178, -1, math.MinInt32, 0xD800}
	for _, row := range rows(some, 4) {
		want, place := expectedLay(row)
		errno := api.OK
		if place >= 0 {
			errno = api.ErrChar
		}
		got, e := Lay(row)
		if !bytes.Equal(got, want) || e != errno {
			t.Fatalf("Lay(%X) = %X, %d", row, got, e)
		}
		if got := Lacks(row); got != place {
			t.Fatalf("Lacks(%X) = %d", row, got)
		}
	}
}

func TestLackingInALongText(t *testing.T) {
	for _, c := range lacking {
		for at := range 40 {
			text := slices.Repeat([]rune{0x20AC}, 40)
			text[39] = 0xA4
			text[at] = c
			if got, e := Lay(text); len(got) != 0 || e != api.ErrChar {
				t.Errorf("Lay with %X at %d = %X, %d", c, at, got, e)
			}
			if got := Lacks(text); got != at {
				t.Errorf("Lacks with %X at %d = %d", c, at, got)
			}
		}
	}
}

func TestRead(t *testing.T) {
	if got := Read(every()); !slices.Equal(got, charset()) {
		t.Errorf("all octets are read as %X", got)
	}
	if got := Read([]byte{0xA4, 0xE9, 0, 0xA4}); !slices.Equal(got, []rune{0x20AC, 0xE9, 0, 0x20AC}) {
		t.Errorf("Read(A4 E9 0 A4) = %X", got)
	}
}

// P9.3

func TestLaidIsRead(t *testing.T) {
	for _, row := range rows(charset(), 2) {
		s, e := Lay(row)
		if e != api.OK || !slices.Equal(Read(s), row) {
			t.Fatalf("%X is laid as %X, %d and read as %X", row, s, e, Read(s))
		}
	}
}

func TestReadIsLaid(t *testing.T) {
	for _, x := range every() {
		for _, y := range every() {
			s := []byte{x, y}
			if back, e := Lay(Read(s)); e != api.OK || !bytes.Equal(back, s) {
				t.Fatalf("%X is read as %X and laid as %X, %d", s, Read(s), back, e)
			}
		}
	}
}

// R3

func TestAnswersHangOnArgumentsAlone(t *testing.T) {
	text := []rune{'a', 0x20AC, 0xFF}
	for range 3 {
		if s, e := Lay(text); e != api.OK || !bytes.Equal(s, []byte{'a', 0xA4, 0xFF}) {
			t.Errorf("Lay = %X, %d", s, e)
		}
		if s, e := Lay([]rune{0xA4}); e != api.ErrChar || len(s) != 0 {
			t.Errorf("Lay of what lacks = %X, %d", s, e)
		}
	}
}

// R4

func TestListsAreLeftAsTheyAre(t *testing.T) {
	room := []rune{'a', 0x20AC, 0xFF, 'x', 'y', 0xA4}
	for n := range len(room) + 1 {
		text := room[:n]
		s, _ := Lay(text)
		_ = append(s, 9)
		Lacks(text)
	}
	if !slices.Equal(room, []rune{'a', 0x20AC, 0xFF, 'x', 'y', 0xA4}) {
		t.Errorf("a text is written into: %X", room)
	}
	octets := []byte{'a', 0xA4, 0xFF, 'x', 'y', 'z'}
	for n := range len(octets) + 1 {
		signs := Read(octets[:n])
		clear(signs)
		_ = append(signs, 9)
	}
	if !bytes.Equal(octets, []byte{'a', 0xA4, 0xFF, 'x', 'y', 'z'}) {
		t.Errorf("octets are written into: %X", octets)
	}
}

func TestAnswersAreTheCallers(t *testing.T) {
	text := []rune{'a', 0x20AC}
	first, _ := Lay(text)
	clear(first)
	if second, _ := Lay(text); !bytes.Equal(second, []byte{'a', 0xA4}) {
		t.Errorf("Lay is turned by its answer: %X", second)
	}
	signs := Read([]byte{'a', 0xA4})
	clear(signs)
	if again := Read([]byte{'a', 0xA4}); !slices.Equal(again, []rune{'a', 0x20AC}) {
		t.Errorf("Read is turned by its answer: %X", again)
	}
}

// R5

func TestNilAndEmpty(t *testing.T) {
	for _, text := range [][]rune{nil, {}} {
		if s, e := Lay(text); len(s) != 0 || e != api.OK {
			t.Errorf("Lay of none = %X, %d", s, e)
		}
		if got := Lacks(text); got != -1 {
			t.Errorf("Lacks of none = %d", got)
		}
	}
	for _, s := range [][]byte{nil, {}} {
		if got := Read(s); len(got) != 0 {
			t.Errorf("Read of none = %X", got)
		}
	}
}
