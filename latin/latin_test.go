package latin

import (
	"bytes"
	"math"
	"slices"
	"testing"

	"sheave/api"
)

// lacking are signs and numbers that the charset has not: beside its end,
// those that are an octet of it once they are cut to eight bits, and numbers
// that are no signs.
var lacking = []rune{
	256, 257, 0x100 + 'A', 0x152, 0x20AC, 0xD800, 0xDFFF, 0xFFFD, 0xFFFF,
	0x10000, 0x10000 + 'A', 0x1F600, api.MaxScalar, api.MaxScalar + 1,
	-1, -2, -128, -255, -256, -256 + 'A', math.MinInt32, math.MinInt32 + 'A', math.MaxInt32,
}

// rows are all rows of up to most of some numbers.
func rows(of []rune, most int) [][]rune {
	all := [][]rune{nil}
	from := 0
	for range most {
		to := len(all)
		for _, row := range all[from:to] {
			for _, c := range of {
				all = append(all, append(slices.Clone(row), c))
			}
		}
		from = to
	}
	return all
}

// expectedLay tells by itself what Lay and Lacks answer.
func expectedLay(t []rune) ([]byte, int) {
	var octets []byte
	for i, c := range t {
		if c < 0 || c > 255 {
			return nil, i
		}
		octets = append(octets, byte(c))
	}
	return octets, -1
}

// every are all octets.
func every() []byte {
	all := make([]byte, 256)
	for i := range all {
		all[i] = byte(i)
	}
	return all
}

// P8.1

func TestSignsOfTheCharset(t *testing.T) {
	for c := rune(0); c <= 255; c++ {
		if !Has(c) {
			t.Errorf("Has(%X) = false", c)
		}
		if x, ok := Put(c); rune(x) != c || !ok {
			t.Errorf("Put(%X) = %X, %v", c, x, ok)
		}
		if got := Sign(byte(c)); got != c {
			t.Errorf("Sign(%X) = %X", c, got)
		}
	}
}

func TestSignsBesideTheCharset(t *testing.T) {
	for _, c := range lacking {
		if Has(c) {
			t.Errorf("Has(%X) = true", c)
		}
		if x, ok := Put(c); x != 0 || ok {
			t.Errorf("Put(%X) = %X, %v", c, x, ok)
		}
	}
	for c := rune(256); c <= api.MaxScalar; c++ {
		if _, ok := Put(c); ok || Has(c) {
			t.Fatalf("the charset has %X", c)
		}
	}
}

func TestExample(t *testing.T) {
	if x, ok := Put(0xE9); x != 0xE9 || !ok {
		t.Errorf("Put(E9) = %X, %v", x, ok)
	}
}

// P8.2

func TestLayAndLacks(t *testing.T) {
	some := []rune{0, 'a', 0x7F, 0x80, 0xE9, 0xFF, 256, 0x20AC, -1, math.MinInt32, 0xD800}
	for _, row := range rows(some, 4) {
		want, place := expectedLay(row)
		errno := api.OK
		if place >= 0 {
			errno = api.ErrChar
		}
		got, e := Lay(row)
		if !bytes.Equal(got, want) || e != errno {
			t.Fatalf("Lay(%X) = %X, %d", row, got, e)
		}
		if got := Lacks(row); got != place {
			t.Fatalf("Lacks(%X) = %d", row, got)
		}
	}
}

func TestLackingInALongText(t *testing.T) {
	for _, c := range lacking {
		for at := range 40 {
			text := slices.Repeat([]rune{0xE9}, 40)
			text[at] = c
			text[39] = 0x20AC
			if got, e := Lay(text); len(got) != 0 || e != api.ErrChar {
				t.Errorf("Lay with %X at %d = %X, %d", c, at, got, e)
			}
			if got := Lacks(text); got != at {
				t.Errorf("Lacks with %X at %d = %d", c, at, got)
			}
		}
	}
}

func TestRead(t *testing.T) {
	got := Read(every())
	if len(got) != 256 {
		t.Fatalf("Read of all octets has %d signs", len(got))
	}
	for i, c := range got {
		if c != rune(i) {
			t.Errorf("octet %X is read as %X", i, c)
		}
	}
	if got := Read([]byte{0xC3, 0xA9, 0, 0xFF}); !slices.Equal(got, []rune{0xC3, 0xA9, 0, 0xFF}) {
		t.Errorf("Read(C3 A9 0 FF) = %X", got)
	}
}

// P8.3

func TestLaidIsRead(t *testing.T) {
	for _, row := range rows([]rune{0, 'a', 0x7F, 0x80, 0xA4, 0xFF}, 4) {
		s, e := Lay(row)
		if e != api.OK || !slices.Equal(Read(s), row) {
			t.Fatalf("%X is laid as %X, %d and read as %X", row, s, e, Read(s))
		}
	}
}

func TestReadIsLaid(t *testing.T) {
	for _, x := range every() {
		for _, y := range every() {
			s := []byte{x, y}
			if back, e := Lay(Read(s)); e != api.OK || !bytes.Equal(back, s) {
				t.Fatalf("%X is read as %X and laid as %X, %d", s, Read(s), back, e)
			}
		}
	}
}

// R4

func TestListsAreLeftAsTheyAre(t *testing.T) {
	room := []rune{'a', 0xE9, 0xFF, 'x', 'y', 'z'}
	for n := range 4 {
		text := room[:n]
		s, _ := Lay(text)
		_ = append(s, 9)
		Lacks(text)
	}
	if !slices.Equal(room, []rune{'a', 0xE9, 0xFF, 'x', 'y', 'z'}) {
		t.Errorf("a text is written into: %X", room)
	}
	octets := []byte{'a', 0xE9, 0xFF, 'x', 'y', 'z'}
	for n := range 4 {
		_ = append(Read(octets[:n]), 9)
	}
	if !bytes.Equal(octets, []byte{'a', 0xE9, 0xFF, 'x', 'y', 'z'}) {
		t.Errorf("octets are written into: %X", octets)
	}
}

func TestAnswersAreTheCallers(t *testing.T) {
	text := []rune{'a', 0xE9}
	first, _ := Lay(text)
	clear(first)
	if second, _ := Lay(text); !bytes.Equal(second, []byte{'a', 0xE9}) {
		t.Errorf("Lay is turned by its answer: %X", second)
	}
	signs := Read([]byte{'a', 0xE9})
	clear(signs)
	if again := Read([]byte{'a', 0xE9}); !slices.Equal(again, []rune{'a', 0xE9}) {
		t.Errorf("Read is turned by its answer: %X", again)
	}
}

// R5

func TestNilAndEmpty(t *testing.T) {
	for _, text := range [][]rune{nil, {}} {
		if s, e := Lay(text); len(s) != 0 || e != api.OK {
			t.Errorf("Lay of none = %X, %d", s, e)
		}
		if got := Lacks(text); got != -1 {
			t.Errorf("Lacks of none = %d", got)
		}
	}
	for _, s := range [][]byte{nil, {}} {
		if got := Read(s); len(got) != 0 {
			t.Errorf("Read of none = %X", got)
		}
	}
}
