package units

import (
	"bytes"
	"encoding/binary"
	"math"
	"slices"
	"testing"
	"unicode/utf16"
	"unicode/utf8"

	"sheave/api"
)

// everyScalar hands on every scalar value.
func everyScalar(yield func(rune) bool) {
	for c := rune(0); c <= 0x10FFFF; c++ {
		if c >= 0xD800 && c <= 0xDFFF {
			continue
		}
		if !yield(c) {
			return
		}
	}
}

// allScalars is the text of every scalar value.
func allScalars() []rune { return slices.Collect(everyScalar) }

// noScalars are numbers that are no scalar values.
func noScalars() []rune {
	return []rune{-1, -2, -0x41, -0xD800, -0x10000, math.MinInt32, math.MinInt32 + 1,
		0xD800, 0xD801, 0xDBFF, 0xDC00, 0xDFFE, 0xDFFF,
		0x110000, 0x110001, 0x1FFFFF, 0x200000, 0x1000041, math.MaxInt32 - 1, math.MaxInt32}
}

// alone is the place of the first surrogate that stands alone, or -1; written
// out, as no other code has it.
func alone(u []uint16) int {
	for i := 0; i < len(u); i++ {
		switch {
		case u[i] >= 0xDC00 && u[i] <= 0xDFFF:
			return i
		case u[i] < 0xD800 || u[i] > 0xDBFF:
			continue
		case i+1 == len(u) || u[i+1] < 0xDC00 || u[i+1] > 0xDFFF:
			return i
		}
		i++
	}
	return -1
}

// expected is the error of units.
func expected(u []uint16) api.Errno {
	at := alone(u)
	switch {
	case at < 0:
		return api.OK
	case at == len(u)-1 && u[at] <= 0xDBFF:
		return api.ErrEnd
	}
	return api.ErrForm
}

// ask holds all that the package tells of units against what is expected, and
// against the library.
func ask(t *testing.T, u []uint16) {
	t.Helper()
	text, want := utf16.Decode(u), expected(u)
	if got := Read(u); !slices.Equal(got, text) {
		t.Fatalf("Read(%x) = %x, want %x", u, got, text)
	}
	if got := Right(u); got != (want == api.OK) {
		t.Fatalf("Right(%x) = %v", u, got)
	}
	got, err := Strict(u)
	if err != want {
		t.Fatalf("Strict(%x) = %x, %d, want the error %d", u, got, err, want)
	}
	if err != api.OK && len(got) != 0 || err == api.OK && !slices.Equal(got, text) {
		t.Fatalf("Strict(%x) = %x, %d, want %x", u, got, err, text)
	}
}

// rows hands on every row of so many units out of some, in one list that is
// written over.
func rows(some []uint16, many int) func(func([]uint16) bool) {
	return func(yield func([]uint16) bool) {
		row := make([]uint16, many)
		places := make([]int, many)
		for {
			for i, p := range places {
				row[i] = some[p]
			}
			if !yield(row) {
				return
			}
			i := many - 1
			for i >= 0 && places[i] == len(some)-1 {
				places[i] = 0
				i--
			}
			if i < 0 {
				return
			}
			places[i]++
		}
	}
}

// edges are the units where something begins or ends, and some between.
func edges() []uint16 {
	return []uint16{0, 'a', 0xD7FF, 0xD800, 0xD83D, 0xDBFF, 0xDC00, 0xDE00, 0xDFFF, 0xE000, 0xFFFD, 0xFFFF}
}

// fill fills a list to its capacity, so that memory that is shared shows.
func fill[E any](s []E, with E) {
	s = s[:cap(s)]
	for i := range s {
		s[i] = with
	}
}

// room is what lies behind a list's end.
func room[E any](s []E) []E { return s[len(s):cap(s)] }

// roomy is a list with room behind its end, that is filled.
func roomy[E any](with E, list ...E) []E {
	s := append(make([]E, 0, len(list)+8), list...)
	fill(room(s), with)
	return s
}

// P6.1

func TestOf(t *testing.T) {
	cases := []struct {
		c    rune
		want []uint16
	}{
		{0, []uint16{0}},
		{'a', []uint16{0x61}},
		{0xE9, []uint16{0xE9}},
		{0x20AC, []uint16{0x20AC}},
		{0xD7FF, []uint16{0xD7FF}},
		{0xE000, []uint16{0xE000}},
		{0xFFFD, []uint16{0xFFFD}},
		{0xFFFF, []uint16{0xFFFF}},
		{0x10000, []uint16{0xD800, 0xDC00}},
		{0x10001, []uint16{0xD800, 0xDC01}},
		{0x103FF, []uint16{0xD800, 0xDFFF}},
		{0x10400, []uint16{0xD801, 0xDC00}},
		{0x1F600, []uint16{0xD83D, 0xDE00}},
		{0x20000, []uint16{0xD840, 0xDC00}},
		{0xFFFFF, []uint16{0xDBBF, 0xDFFF}},
		{0x100000, []uint16{0xDBC0, 0xDC00}},
		{0x10FFFF, []uint16{0xDBFF, 0xDFFF}},
	}
	for _, x := range cases {
		if got := Of(x.c); !slices.Equal(got, x.want) {
			t.Errorf("Of(%#x) = %x, want %x", x.c, got, x.want)
		}
		if got, err := Lay([]rune{x.c}); !slices.Equal(got, x.want) || err != api.OK {
			t.Errorf("Lay(%#x) = %x, %d, want %x", x.c, got, err, x.want)
		}
	}
}

func TestOfEverySign(t *testing.T) {
	for c := range everyScalar {
		if got, want := Of(c), utf16.AppendRune(nil, c); !slices.Equal(got, want) {
			t.Fatalf("Of(%#x) = %x, want %x", c, got, want)
		}
	}
}

func TestOfWhatIsNoScalarValue(t *testing.T) {
	for c := rune(0xD800); c <= 0xDFFF; c++ {
		if got := Of(c); len(got) != 0 {
			t.Errorf("Of(%#x) = %x", c, got)
		}
	}
	for _, c := range noScalars() {
		if got := Of(c); len(got) != 0 {
			t.Errorf("Of(%#x) = %x", c, got)
		}
	}
}

func TestLay(t *testing.T) {
	cases := []struct {
		text []rune
		want []uint16
	}{
		{nil, nil},
		{[]rune{}, nil},
		{[]rune{'a', 13, 10, 0}, []uint16{'a', 13, 10, 0}},
		{[]rune{0xFEFF, 'a'}, []uint16{0xFEFF, 'a'}},
		{[]rune{'a', 0x1F600, 'b'}, []uint16{'a', 0xD83D, 0xDE00, 'b'}},
		{[]rune{0x1F600, 0x1F600}, []uint16{0xD83D, 0xDE00, 0xD83D, 0xDE00}},
		{[]rune{0x10FFFF, 0x10000, 0xFFFF}, []uint16{0xDBFF, 0xDFFF, 0xD800, 0xDC00, 0xFFFF}},
	}
	for _, x := range cases {
		if got, err := Lay(x.text); !slices.Equal(got, x.want) || err != api.OK {
			t.Errorf("Lay(%x) = %x, %d, want %x", x.text, got, err, x.want)
		}
	}
	all := allScalars()
	if got, err := Lay(all); !slices.Equal(got, utf16.Encode(all)) || err != api.OK {
		t.Errorf("all signs are laid otherwise, as %d units, %d", len(got), err)
	}
}

func TestLayOfWhatIsNotRight(t *testing.T) {
	for _, c := range noScalars() {
		texts := [][]rune{{c}, {c, 'a'}, {'a', c}, {'a', c, 0xE9}, {c, c}, {0x1F600, c}, {0x1F600, c, 0x1F600}, {13, 10, c}}
		for _, text := range texts {
			if got, err := Lay(text); len(got) != 0 || err != api.ErrScalar {
				t.Errorf("Lay(%x) = %x, %d", text, got, err)
			}
		}
	}
	// Two surrogates are no sign of a text.
	if got, err := Lay([]rune{0xD83D, 0xDE00}); len(got) != 0 || err != api.ErrScalar {
		t.Errorf("Lay of two surrogates is %x, %d", got, err)
	}
}

func TestHighAndLow(t *testing.T) {
	for u := range 0x10000 {
		if got := High(uint16(u)); got != (u >= 0xD800 && u <= 0xDBFF) {
			t.Errorf("High(%#x) = %v", u, got)
		}
		if got := Low(uint16(u)); got != (u >= 0xDC00 && u <= 0xDFFF) {
			t.Errorf("Low(%#x) = %v", u, got)
		}
	}
}

func TestOctets(t *testing.T) {
	cases := []struct {
		u    []uint16
		want string
	}{
		{nil, ""},
		{[]uint16{}, ""},
		{[]uint16{0}, "\x00\x00"},
		{[]uint16{'a'}, "\x00a"},
		{[]uint16{0x20AC}, "\x20\xAC"},
		{[]uint16{0xAC20}, "\xAC\x20"},
		{[]uint16{0xD83D, 0xDE00}, "\xD8\x3D\xDE\x00"},
		{[]uint16{0xDC00, 0xD800}, "\xDC\x00\xD8\x00"},
		{[]uint16{0xFFFF, 0x00FF, 0xFF00}, "\xFF\xFF\x00\xFF\xFF\x00"},
	}
	for _, x := range cases {
		if got := Octets(x.u); string(got) != x.want {
			t.Errorf("Octets(%x) = % x, want % x", x.u, got, x.want)
		}
		if got, err := FromOctets([]byte(x.want)); !slices.Equal(got, x.u) || err != api.OK {
			t.Errorf("FromOctets(% x) = %x, %d, want %x", x.want, got, err, x.u)
		}
	}
}

func TestOctetsOfEveryUnit(t *testing.T) {
	var all []uint16
	var want []byte
	for u := range 0x10000 {
		all = append(all, uint16(u))
		want = binary.BigEndian.AppendUint16(want, uint16(u))
		if got, err := FromOctets(want[2*u:]); len(got) != 1 || got[0] != uint16(u) || err != api.OK {
			t.Fatalf("FromOctets(% x) = %x, %d", want[2*u:], got, err)
		}
	}
	if got := Octets(all); !bytes.Equal(got, want) {
		t.Error("the octets of all units are others")
	}
	if got, err := FromOctets(want); !slices.Equal(got, all) || err != api.OK {
		t.Errorf("of the octets of all units %d units are made, %d", len(got), err)
	}
}

func TestFromOctetsOfAnOddNumber(t *testing.T) {
	for c := range 256 {
		if got, err := FromOctets([]byte{byte(c)}); len(got) != 0 || err != api.ErrEnd {
			t.Errorf("FromOctets(%x) = %x, %d", c, got, err)
		}
	}
	for many := range 200 {
		s := bytes.Repeat([]byte{'a'}, many)
		got, err := FromOctets(s)
		if many%2 == 1 && (len(got) != 0 || err != api.ErrEnd) {
			t.Errorf("FromOctets of %d octets is %x, %d", many, got, err)
		}
		if many%2 == 0 && (len(got) != many/2 || err != api.OK) {
			t.Errorf("FromOctets of %d octets is %x, %d", many, got, err)
		}
	}
}

// P6.2

func TestReadAndStrict(t *testing.T) {
	const bad = 0xFFFD
	cases := []struct {
		u    []uint16
		want []rune
		err  api.Errno
	}{
		{nil, nil, api.OK},
		{[]uint16{}, nil, api.OK},
		{[]uint16{0}, []rune{0}, api.OK},
		{[]uint16{'a', 13, 10}, []rune{'a', 13, 10}, api.OK},
		{[]uint16{0xFFFD}, []rune{bad}, api.OK},
		{[]uint16{0xFEFF, 0xFFFE, 0xFFFF}, []rune{0xFEFF, 0xFFFE, 0xFFFF}, api.OK},
		{[]uint16{0xD7FF, 0xE000}, []rune{0xD7FF, 0xE000}, api.OK},
		{[]uint16{0xD83D, 0xDE00}, []rune{0x1F600}, api.OK},
		{[]uint16{0xD800, 0xDC00}, []rune{0x10000}, api.OK},
		{[]uint16{0xD800, 0xDFFF}, []rune{0x103FF}, api.OK},
		{[]uint16{0xDBFF, 0xDC00}, []rune{0x10FC00}, api.OK},
		{[]uint16{0xDBFF, 0xDFFF}, []rune{0x10FFFF}, api.OK},
		{[]uint16{'a', 0xD83D, 0xDE00, 'b', 0xD83D, 0xDE01}, []rune{'a', 0x1F600, 'b', 0x1F601}, api.OK},
		// The low one is missing, and none stood alone ahead.
		{[]uint16{0xD800}, []rune{bad}, api.ErrEnd},
		{[]uint16{0xDBFF}, []rune{bad}, api.ErrEnd},
		{[]uint16{'a', 0xD83D}, []rune{'a', bad}, api.ErrEnd},
		{[]uint16{0xD83D, 0xDE00, 0xD83D}, []rune{0x1F600, bad}, api.ErrEnd},
		{[]uint16{0xFFFD, 0xD83D}, []rune{bad, bad}, api.ErrEnd},
		// Another one stands alone.
		{[]uint16{0xDC00}, []rune{bad}, api.ErrForm},
		{[]uint16{0xDFFF}, []rune{bad}, api.ErrForm},
		{[]uint16{'a', 0xDE00}, []rune{'a', bad}, api.ErrForm},
		{[]uint16{0xDE00, 0xD83D}, []rune{bad, bad}, api.ErrForm},
		{[]uint16{0xD83D, 'a'}, []rune{bad, 'a'}, api.ErrForm},
		{[]uint16{0xD83D, 0xE000}, []rune{bad, 0xE000}, api.ErrForm},
		{[]uint16{0xD83D, 0xDBFF}, []rune{bad, bad}, api.ErrForm},
		{[]uint16{0xD83D, 0xD83D}, []rune{bad, bad}, api.ErrForm},
		{[]uint16{0xD83D, 0xD83D, 0xDE00}, []rune{bad, 0x1F600}, api.ErrForm},
		{[]uint16{0xD83D, 0xDE00, 0xDE00}, []rune{0x1F600, bad}, api.ErrForm},
		{[]uint16{0xD83D, 'a', 0xD83D}, []rune{bad, 'a', bad}, api.ErrForm},
		{[]uint16{0xDE00, 'a', 0xD83D}, []rune{bad, 'a', bad}, api.ErrForm},
		{[]uint16{0xDE00, 0xD83D, 0xDE00, 0xD83D}, []rune{bad, 0x1F600, bad}, api.ErrForm},
	}
	for _, x := range cases {
		if got := Read(x.u); !slices.Equal(got, x.want) {
			t.Errorf("Read(%x) = %x, want %x", x.u, got, x.want)
		}
		if got := Right(x.u); got != (x.err == api.OK) {
			t.Errorf("Right(%x) = %v", x.u, got)
		}
		want := x.want
		if x.err != api.OK {
			want = nil
		}
		if got, err := Strict(x.u); !slices.Equal(got, want) || err != x.err {
			t.Errorf("Strict(%x) = %x, %d, want %x, %d", x.u, got, err, want, x.err)
		}
	}
}

func TestEveryUnit(t *testing.T) {
	for u := range 0x10000 {
		x := uint16(u)
		ask(t, []uint16{x})
		for _, e := range edges() {
			ask(t, []uint16{x, e})
			ask(t, []uint16{e, x})
			ask(t, []uint16{'a', x, e})
			ask(t, []uint16{0xD83D, x, e})
		}
	}
}

func TestEveryRowOfEdges(t *testing.T) {
	for many := range 6 {
		for u := range rows(edges(), many) {
			ask(t, u)
		}
	}
	for u := range rows([]uint16{'a', 0xD83D, 0xDE00}, 10) {
		ask(t, u)
	}
}

func TestLongLists(t *testing.T) {
	for u := range rows(edges(), 2) {
		long := slices.Repeat(u, 1000)
		ask(t, long)
		ask(t, append(long, 0xD83D))
		ask(t, append(long, 0xDE00, 'z'))
	}
}

// P6.3

func TestWhatIsLaidIsRead(t *testing.T) {
	texts := [][]rune{nil, {0}, {'a', 0xE9, 0x20AC, 0x1F600}, {0xFFFD, 0xFFFD}, {0x10FFFF, 0x10000, 0xFFFF, 0xE000, 0xD7FF}, allScalars()}
	for c := range everyScalar {
		if c%0x101 == 0 || c > 0xD7F0 && c < 0xE010 || c > 0xFFF0 && c < 0x10010 {
			texts = append(texts, []rune{0x10000, c, 'a', c})
		}
	}
	for _, text := range texts {
		laid, err := Lay(text)
		if err != api.OK || !Right(laid) {
			t.Fatalf("%d signs are laid as %d units, %d, that are not right", len(text), len(laid), err)
		}
		if got := Read(laid); !slices.Equal(got, text) {
			t.Fatalf("what %d signs are laid as is read as %d others", len(text), len(got))
		}
		if got, err := Strict(laid); !slices.Equal(got, text) || err != api.OK {
			t.Fatalf("what %d signs are laid as is read strictly as %d, %d", len(text), len(got), err)
		}
		if got, err := FromOctets(Octets(laid)); !slices.Equal(got, laid) || err != api.OK {
			t.Fatalf("the octets of %d units are those of %d others, %d", len(laid), len(got), err)
		}
	}
}

func TestWhatIsReadIsRight(t *testing.T) {
	for many := range 6 {
		for u := range rows(edges(), many) {
			read := Read(u)
			for _, c := range read {
				if !utf8.ValidRune(c) {
					t.Fatalf("of %x %#x is read", u, c)
				}
			}
			if len(read) > len(u) {
				t.Fatalf("of %d units %d signs are read", len(u), len(read))
			}
			laid, err := Lay(read)
			if err != api.OK {
				t.Fatalf("what %x is read as can't be laid, %d", u, err)
			}
			if same := slices.Equal(laid, u); same != Right(u) {
				t.Fatalf("%x is read and laid as %x, right %v", u, laid, Right(u))
			}
		}
	}
}

// R4

func TestUnitsAreLeft(t *testing.T) {
	// Each end may seem to go on behind the list.
	for u := range rows([]uint16{'a', 0xD83D, 0xDE00}, 3) {
		list := roomy(0xDE00, u...)
		ask(t, list)
		Octets(list)
		if !slices.Equal(list, u) {
			t.Errorf("of %x %x is left", u, list)
		}
		for _, x := range room(list) {
			if x != 0xDE00 {
				t.Errorf("behind %x %x is written", u, x)
			}
		}
	}
}

func TestTextsAndOctetsAreLeft(t *testing.T) {
	for _, text := range [][]rune{nil, {'a'}, {'a', 0x1F600}, {0xD800}, {'a', -1, 'b'}, {0x110000}} {
		list := roomy(rune(0xD800), text...)
		Lay(list)
		if !slices.Equal(list, text) || slices.Min(room(list)) != 0xD800 || slices.Max(room(list)) != 0xD800 {
			t.Errorf("of %x %x is left", text, list[:cap(list)])
		}
	}
	for _, text := range []string{"", "a", "ab", "abc", "\xD8\x3D\xDE\x00"} {
		list := roomy('X', []byte(text)...)
		FromOctets(list)
		if string(list) != text || slices.Min(room(list)) != 'X' || slices.Max(room(list)) != 'X' {
			t.Errorf("of % x % x is left", text, list[:cap(list)])
		}
	}
}

func TestSpareCapacityTurnsNothing(t *testing.T) {
	if got, err := Lay(roomy(rune(0xD800), 'a', 0x1F600)); !slices.Equal(got, []uint16{'a', 0xD83D, 0xDE00}) || err != api.OK {
		t.Errorf("Lay is %x, %d", got, err)
	}
	if got, err := FromOctets(roomy(byte('X'), 'a', 'b', 'c')); len(got) != 0 || err != api.ErrEnd {
		t.Errorf("FromOctets is %x, %d", got, err)
	}
}

// sharesNothing asks a call twice, writes into an answer and into what was
// handed in, and looks whether anything else turns.
func sharesNothing[A, B comparable](t *testing.T, name string, call func([]A) []B, handed []A, a A, b B) {
	t.Helper()
	kept := slices.Clone(handed)
	answer := call(handed)
	before := slices.Clone(answer)
	again := call(handed)
	fill(again, b)
	if !slices.Equal(handed, kept) || !slices.Equal(answer, before) {
		t.Errorf("%s: writing into an answer leaves %v of %v, and turns %v to %v", name, handed, kept, before, answer)
	}
	fill(handed, a)
	if !slices.Equal(answer, before) {
		t.Errorf("%s: the answer %v turns to %v", name, before, answer)
	}
	if third := call(kept); !slices.Equal(third, before) {
		t.Errorf("%s is %v, and later %v", name, before, third)
	}
}

func TestAnswersShareNothing(t *testing.T) {
	lay := func(t []rune) []uint16 { out, _ := Lay(t); return out }
	of := func(t []rune) []uint16 { return Of(append(t, 0xD800)[0]) }
	strict := func(u []uint16) []rune { out, _ := Strict(u); return out }
	from := func(s []byte) []uint16 { out, _ := FromOctets(s); return out }
	for u := range rows([]uint16{'a', 0xD83D, 0xDE00}, 3) {
		sharesNothing(t, "Read", Read, roomy('X', u...), 'X', 'X')
		sharesNothing(t, "Strict", strict, roomy('X', u...), 'X', 'X')
		sharesNothing(t, "Octets", Octets, roomy('X', u...), 'X', 'X')
		sharesNothing(t, "Lay", lay, roomy('X', Read(u)...), 'X', 'X')
		sharesNothing(t, "Of", of, roomy('X', Read(u)...), 'X', 'X')
		sharesNothing(t, "FromOctets", from, roomy('X', Octets(u)...), 'X', 'X')
	}
}
