package winone

import (
	"bytes"
	"math"
	"slices"
	"testing"

	"sheave/api"
)

// none stands in the lists of these tests at an octet that has no sign.
const none = 0xFFFD

// middleSigns are the signs of the octets 80 to 9F, in order.
var middleSigns = []rune{
	0x20AC, none, 0x201A, 0x0192, 0x201E, 0x2026, 0x2020, 0x2021, 0x02C6, 0x2030, 0x0160, 0x2039, 0x0152, none, 0x017D, none,
	none, 0x2018, 0x2019, 0x201C, 0x201D, 0x2022, 0x2013, 0x2014, 0x02DC, 0x2122, 0x0161, 0x203A, 0x0153, none, 0x017E, 0x0178,
}

// signless are the octets that have no sign.
var signless = []byte{0x81, 0x8D, 0x8F, 0x90, 0x9D}

// charset are the signs of all octets, in order, and none of some.
func charset() []rune {
	all := make([]rune, 256)
	for i := range all {
		all[i] = rune(i)
	}
	copy(all[0x80:], middleSigns)
	return all
}

// places are the octets of all signs that the charset has.
func places() map[rune]byte {
	all := map[rune]byte{}
	for i, c := range charset() {
		if c != none {
			all[c] = byte(i)
		}
	}
	return all
}

// lacking are signs and numbers that the charset has not: what stands for no
// sign, those beside the other signs, those that are an octet or another sign
// once they are cut to fewer bits, and numbers that are no signs. The numbers
// 80 to 9F are put to them by allLacking.
var lacking = []rune{
	none, none - 1, none + 1, 0xFFFF,
	0x100, 0x101, 0x100 + 'A', 0x151, 0x154, 0x15F, 0x162, 0x177, 0x179, 0x17C, 0x17F, 0x191, 0x193, 0x1A0, 0x1FF,
	0x2C5, 0x2C7, 0x2DB, 0x2DD, 0x2012, 0x2015, 0x2017, 0x201B, 0x201F, 0x2023, 0x2025, 0x2027,
	0x202F, 0x2031, 0x2038, 0x203B, 0x20AB, 0x20AD, 0x2121, 0x2123, 0xD800, 0xDFFF,
	0x10000, 0x10000 + 'A', 0x10192, 0x120AC, 0x1F600, api.MaxScalar, api.MaxScalar + 1,
	-1, -2, -0x60, -0x80, -0xFF, -0x100, -0x100 + 'A', -0x20AC, -none,
	math.MinInt32, math.MinInt32 + 'A', math.MinInt32 + 0x20AC, math.MaxInt32,
}

// allLacking are those of lacking and the numbers of the octets 80 to 9F.
func allLacking() []rune {
	all := slices.Clone(lacking)
	for c := rune(0x80); c <= 0x9F; c++ {
		all = append(all, c)
	}
	return all
}

// rows are all rows of up to most of some numbers.
func rows(of []rune, most int) [][]rune {
	all := [][]rune{nil}
	from := 0
	for range most {
		to := len(all)
		for _, row := range all[from:to] {
			for _, c := range of {
				all = append(all, append(slices.Clone(row), c))
			}
		}
		from = to
	}
	return all
}

// expectedLay tells by the places of all signs what Lay and Lacks answer.
func expectedLay(t []rune, signs map[rune]byte) ([]byte, int) {
	var octets []byte
	for i, c := range t {
		x, has := signs[c]
		if !has {
			return nil, i
		}
		octets = append(octets, x)
	}
	return octets, -1
}

// every are all octets.
func every() []byte {
	all := make([]byte, 256)
	for i := range all {
		all[i] = byte(i)
	}
	return all
}

// P10.1

func TestSignsOfTheCharset(t *testing.T) {
	if n := len(places()); n != 256-len(signless) {
		t.Fatalf("the list of signs has %d", n)
	}
	for c, want := range places() {
		if !Has(c) {
			t.Errorf("Has(%X) = false", c)
		}
		if x, ok := Put(c); x != want || !ok {
			t.Errorf("Put(%X) = %X, %v", c, x, ok)
		}
	}
	for i, c := range charset() {
		if got := Sign(byte(i)); got != c {
			t.Errorf("Sign(%X) = %X", i, got)
		}
	}
}

func TestTheEdgesOfTheOthers(t *testing.T) {
	for _, o := range []struct {
		octet byte
		sign  rune
	}{
		{0x7F, 0x7F}, {0x80, 0x20AC}, {0x9F, 0x178}, {0xA0, 0xA0}, {0xFF, 0xFF}, {0, 0},
	} {
		if x, ok := Put(o.sign); x != o.octet || !ok || !Has(o.sign) {
			t.Errorf("Put(%X) = %X, %v", o.sign, x, ok)
		}
		if got := Sign(o.octet); got != o.sign {
			t.Errorf("Sign(%X) = %X", o.octet, got)
		}
	}
}

func TestOctetsThatHaveNoSign(t *testing.T) {
	for _, x := range signless {
		if got := Sign(x); got != 0xFFFD {
			t.Errorf("Sign(%X) = %X", x, got)
		}
	}
	if x, ok := Put(0xFFFD); x != 0 || ok || Has(0xFFFD) {
		t.Errorf("Put(FFFD) = %X, %v", x, ok)
	}
}

func TestSignsBesideTheCharset(t *testing.T) {
	for _, c := range allLacking() {
		if Has(c) {
			t.Errorf("Has(%X) = true", c)
		}
		if x, ok := Put(c); x != 0 || ok {
			t.Errorf("Put(%X) = %X, %v", c, x, ok)
		}
	}
}

func TestHasAndPutOverEveryNumberNearTheRange(t *testing.T) {
	signs := places()
	for c := rune(-0x10000); c <= api.MaxScalar+0x10000; c++ {
		want, in := signs[c]
		if x, ok := Put(c); x != want || ok != in || Has(c) != in {
			t.Fatalf("Put(%X) = %X, %v and Has = %v", c, x, ok, Has(c))
		}
	}
}

func TestExample(t *testing.T) {
	if x, ok := Put(0x20AC); x != 0x80 || !ok {
		t.Errorf("Put(20AC) = %X, %v", x, ok)
	}
	if x, ok := Put(0x81); x != 0 || ok || Has(0x81) {
		t.Errorf("Put(81) = %X, %v", x, ok)
	}
}

// P10.2

func TestLayAndLacks(t *testing.T) {
	some := []rune{0, 'a', 0x7F, 0x80, 0x81, 0x9F, 0xA0, 0xFF, 0x100, 0x20AC, 0x178, none, -1, math.MinInt32}
	signs := places()
	for _, row := range rows(some, 4) {
		want, place := expectedLay(row, signs)
		errno := api.OK
		if place >= 0 {
			errno = api.ErrChar
		}
		got, e := Lay(row)
		if !bytes.Equal(got, want) || e != errno {
			t.Fatalf("Lay(%X) = %X, %d", row, got, e)
		}
		if got := Lacks(row); got != place {
			t.Fatalf("Lacks(%X) = %d", row, got)
		}
	}
}

func TestLackingInALongText(t *testing.T) {
	for _, c := range allLacking() {
		for at := range 40 {
			text := slices.Repeat([]rune{0x20AC}, 40)
			text[39] = 0x81
			text[at] = c
			if got, e := Lay(text); len(got) != 0 || e != api.ErrChar {
				t.Errorf("Lay with %X at %d = %X, %d", c, at, got, e)
			}
			if got := Lacks(text); got != at {
				t.Errorf("Lacks with %X at %d = %d", c, at, got)
			}
		}
	}
}

func TestRead(t *testing.T) {
	if got := Read(every()); !slices.Equal(got, charset()) {
		t.Errorf("all octets are read as %X", got)
	}
	want := []rune{0x20AC, 0xFFFD, 0xE9, 0, 0x178, 0xFFFD}
	if got := Read([]byte{0x80, 0x81, 0xE9, 0, 0x9F, 0x9D}); !slices.Equal(got, want) {
		t.Errorf("Read(80 81 E9 0 9F 9D) = %X", got)
	}
}

// P10.3

func TestLaidIsRead(t *testing.T) {
	var signs []rune
	for _, c := range charset() {
		if c != none {
			signs = append(signs, c)
		}
	}
	for _, row := range rows(signs, 2) {
		s, e := Lay(row)
		if e != api.OK || !slices.Equal(Read(s), row) {
			t.Fatalf("%X is laid as %X, %d and read as %X", row, s, e, Read(s))
		}
	}
}

func TestReadIsLaid(t *testing.T) {
	for _, x := range every() {
		for _, y := range every() {
			s := []byte{x, y}
			text := Read(s)
			back, e := Lay(text)
			switch at := slices.Index(text, 0xFFFD); {
			case at >= 0 && (len(back) != 0 || e != api.ErrChar || Lacks(text) != at):
				t.Fatalf("%X is read as %X and laid as %X, %d", s, text, back, e)
			case at < 0 && (!bytes.Equal(back, s) || e != api.OK):
				t.Fatalf("%X is read as %X and laid as %X, %d", s, text, back, e)
			}
		}
	}
}

// R3

func TestAnswersHangOnArgumentsAlone(t *testing.T) {
	text := []rune{'a', 0x20AC, 0xFF}
	for range 3 {
		if s, e := Lay(text); e != api.OK || !bytes.Equal(s, []byte{'a', 0x80, 0xFF}) {
			t.Errorf("Lay = %X, %d", s, e)
		}
		if s, e := Lay([]rune{0x81}); e != api.ErrChar || len(s) != 0 {
			t.Errorf("Lay of what lacks = %X, %d", s, e)
		}
	}
}

func TestOthersAreNewAtEachCall(t *testing.T) {
	signs := others()
	if len(signs) != 32 || cap(signs) != 32 {
		t.Errorf("the others are %d in room for %d", len(signs), cap(signs))
	}
	clear(signs)
	if got := Sign(0x80); got != 0x20AC {
		t.Errorf("the others are turned: %X", got)
	}
}

// R4

func TestListsAreLeftAsTheyAre(t *testing.T) {
	room := []rune{'a', 0x20AC, 0xFF, 'x', 'y', 0x81}
	for n := range len(room) + 1 {
		text := room[:n]
		s, _ := Lay(text)
		_ = append(s, 9)
		Lacks(text)
	}
	if !slices.Equal(room, []rune{'a', 0x20AC, 0xFF, 'x', 'y', 0x81}) {
		t.Errorf("a text is written into: %X", room)
	}
	octets := []byte{'a', 0x80, 0x81, 'x', 'y', 'z'}
	for n := range len(octets) + 1 {
		signs := Read(octets[:n])
		clear(signs)
		_ = append(signs, 9)
	}
	if !bytes.Equal(octets, []byte{'a', 0x80, 0x81, 'x', 'y', 'z'}) {
		t.Errorf("octets are written into: %X", octets)
	}
}

func TestAnswersAreTheCallers(t *testing.T) {
	text := []rune{'a', 0x20AC}
	first, _ := Lay(text)
	clear(first)
	if second, _ := Lay(text); !bytes.Equal(second, []byte{'a', 0x80}) {
		t.Errorf("Lay is turned by its answer: %X", second)
	}
	signs := Read([]byte{'a', 0x80})
	clear(signs)
	if again := Read([]byte{'a', 0x80}); !slices.Equal(again, []rune{'a', 0x20AC}) {
		t.Errorf("Read is turned by its answer: %X", again)
	}
}

// R5

func TestNilAndEmpty(t *testing.T) {
	for _, text := range [][]rune{nil, {}} {
		if s, e := Lay(text); len(s) != 0 || e != api.OK {
			t.Errorf("Lay of none = %X, %d", s, e)
		}
		if got := Lacks(text); got != -1 {
			t.Errorf("Lacks of none = %d", got)
		}
	}
	for _, s := range [][]byte{nil, {}} {
		if got := Read(s); len(got) != 0 {
			t.Errorf("Read of none = %X", got)
		}
	}
}
