package utfone

import (
	"bytes"
	"math"
	"slices"
	"testing"
	"unicode/utf8"

	"sheave/api"
)

// everyScalar hands on every scalar value.
func everyScalar(yield func(rune) bool) {
	for c := rune(0); c <= 0x10FFFF; c++ {
		if c >= 0xD800 && c <= 0xDFFF {
			continue
		}
		if !yield(c) {
			return
		}
	}
}

// octets are a scalar value's octets, as the library has them.
func octets(c rune) []byte { return utf8.AppendRune(nil, c) }

// key is a short list as something that a map may have.
type key struct {
	many int
	s    [4]byte
}

func keyOf(s []byte) key {
	k := key{many: len(s)}
	copy(k.s[:], s)
	return k
}

// beginnings are all that are well formed so far, and not whole.
func beginnings() map[key]bool {
	out := map[key]bool{}
	for c := range everyScalar {
		s := octets(c)
		for n := 1; n < len(s); n++ {
			out[keyOf(s[:n])] = true
		}
	}
	return out
}

// taken is what Take answers.
type taken struct {
	c    rune
	many int
	err  api.Errno
}

func take(s []byte) taken {
	c, many, err := Take(s)
	return taken{c, many, err}
}

// wanted is what the document's words ask of Take: a scalar value's octets
// are looked for first, then the longest beginning.
func wanted(s []byte, begun map[key]bool) taken {
	if c, n := utf8.DecodeRune(s); c != utf8.RuneError || n > 1 {
		return taken{c, n, api.OK}
	}
	if len(s) == 0 {
		return taken{0, 0, api.ErrEnd}
	}
	for n := min(len(s), 3); n > 0; n-- {
		if !begun[keyOf(s[:n])] {
			continue
		}
		if n == len(s) {
			return taken{0, n, api.ErrEnd}
		}
		return taken{0, n, api.ErrForm}
	}
	return taken{0, 1, api.ErrForm}
}

// askAll holds Take and Subpart of some octets against what is wanted.
func askAll(t *testing.T, s []byte, begun map[key]bool) {
	t.Helper()
	want := wanted(s, begun)
	if got := take(s); got != want {
		t.Fatalf("Take(% x) = %v, want %v", s, got, want)
	}
	subpart := want.many
	if want.err == api.OK {
		subpart = 0
	}
	if got := Subpart(s); got != subpart {
		t.Fatalf("Subpart(% x) = %d, want %d", s, got, subpart)
	}
}

// noScalars are numbers that are no scalar values.
func noScalars() []rune {
	return []rune{-1, -2, -0x41, -0xD800, -0x10000, math.MinInt32, math.MinInt32 + 1, math.MinInt32 + 0x41,
		0xD800, 0xD801, 0xDBFF, 0xDC00, 0xDFFE, 0xDFFF,
		0x110000, 0x110001, 0x13FFFF, 0x1FFFFF, 0x200000, 0x3FFFFFF, 0x1000041, math.MaxInt32 - 1, math.MaxInt32}
}

// roomy is a list with room behind its end.
func roomy(text string) []byte { return append(make([]byte, 0, 64), text...) }

// room is what lies in that room.
func room(s []byte) []byte { return s[len(s):cap(s)] }

// fill fills a list to its capacity, so that memory that is shared shows.
func fill(s []byte) {
	s = s[:cap(s)]
	for i := range s {
		s[i] = 'X'
	}
}

// P4.1

func TestLenAtEdges(t *testing.T) {
	cases := []struct {
		c    rune
		want int
	}{
		{0, 1}, {1, 1}, {'a', 1}, {0x7F, 1},
		{0x80, 2}, {0xE9, 2}, {0xFF, 2}, {0x100, 2}, {0x7FF, 2},
		{0x800, 3}, {0x20AC, 3}, {0xD7FF, 3}, {0xE000, 3}, {0xFFFD, 3}, {0xFFFE, 3}, {0xFFFF, 3},
		{0x10000, 4}, {0x1F600, 4}, {0x1D800, 4}, {0xFFFFF, 4}, {0x100000, 4}, {0x10FFFF, 4},
	}
	for _, x := range cases {
		if got := Len(x.c); got != x.want {
			t.Errorf("Len(%#x) = %d, want %d", x.c, got, x.want)
		}
	}
}

func TestLenOfEverySign(t *testing.T) {
	many := [5]int{}
	for c := range everyScalar {
		if got := Len(c); got != len(octets(c)) {
			t.Fatalf("Len(%#x) = %d, want %d", c, got, len(octets(c)))
		}
		many[Len(c)]++
	}
	if want := [5]int{0, 0x80, 0x780, 0xF800 - 0x800, 0x100000}; many != want {
		t.Errorf("of each length there are %v, want %v", many, want)
	}
}

func TestNumbersThatAreNoSigns(t *testing.T) {
	wrong := noScalars()
	for c := rune(0xD800); c <= 0xDFFF; c++ {
		wrong = append(wrong, c)
	}
	for c := rune(0x110000); c <= 0x120000; c++ {
		wrong = append(wrong, c, -c, c-0x130000)
	}
	for _, c := range wrong {
		if got := Len(c); got != 0 {
			t.Fatalf("Len(%#x) = %d", c, got)
		}
		for _, b := range [][]byte{nil, {}, []byte("before")} {
			if got, err := Put(b, c); len(got) != 0 || err != api.ErrScalar {
				t.Fatalf("Put(%q, %#x) = % x, %d", b, c, got, err)
			}
		}
	}
}

func TestPut(t *testing.T) {
	cases := []struct {
		b    string
		c    rune
		want string
	}{
		{"", 0, "\x00"},
		{"", 'A', "A"},
		{"", 0x7F, "\x7F"},
		{"", 0x80, "\xC2\x80"},
		{"", 0xA9, "\xC2\xA9"},
		{"", 0xE9, "\xC3\xA9"},
		{"", 0x7FF, "\xDF\xBF"},
		{"", 0x800, "\xE0\xA0\x80"},
		{"", 0x20AC, "\xE2\x82\xAC"},
		{"", 0xD7FF, "\xED\x9F\xBF"},
		{"", 0xE000, "\xEE\x80\x80"},
		{"", 0xFFFD, "\xEF\xBF\xBD"},
		{"", 0xFFFF, "\xEF\xBF\xBF"},
		{"", 0x10000, "\xF0\x90\x80\x80"},
		{"", 0x1F600, "\xF0\x9F\x98\x80"},
		{"", 0x10FFFF, "\xF4\x8F\xBF\xBF"},
		{"caf", 0xE9, "caf\xC3\xA9"},
		{"\x00\xFF", 0x20AC, "\x00\xFF\xE2\x82\xAC"},
		{"\xE2\x82", 'x', "\xE2\x82x"},
	}
	for _, x := range cases {
		if got, err := Put([]byte(x.b), x.c); string(got) != x.want || err != api.OK {
			t.Errorf("Put(%q, %#x) = % x, %d, want % x", x.b, x.c, got, err, x.want)
		}
	}
	if got, err := Put(nil, 0x20AC); string(got) != "\xE2\x82\xAC" || err != api.OK {
		t.Errorf("Put behind nil is % x, %d", got, err)
	}
	if got, err := Put([]byte{}, 'a'); string(got) != "a" || err != api.OK {
		t.Errorf("Put behind nothing is % x, %d", got, err)
	}
}

func TestPutOfEverySign(t *testing.T) {
	for c := range everyScalar {
		got, err := Put([]byte("b"), c)
		if want := append([]byte("b"), octets(c)...); !bytes.Equal(got, want) || err != api.OK {
			t.Fatalf("Put(b, %#x) = % x, %d, want % x", c, got, err, want)
		}
	}
}

func TestStartsAtEdges(t *testing.T) {
	cases := []struct {
		c    byte
		want int
	}{
		{0, 1}, {'A', 1}, {0x7F, 1}, {0x80, 0}, {0xA9, 0}, {0xBF, 0},
		{0xC0, 0}, {0xC1, 0}, {0xC2, 2}, {0xDF, 2}, {0xE0, 3}, {0xED, 3}, {0xEF, 3},
		{0xF0, 4}, {0xF4, 4}, {0xF5, 0}, {0xF7, 0}, {0xF8, 0}, {0xFC, 0}, {0xFE, 0}, {0xFF, 0},
	}
	for _, x := range cases {
		if got := Starts(x.c); got != x.want {
			t.Errorf("Starts(%#x) = %d, want %d", x.c, got, x.want)
		}
	}
}

func TestStartsOfEveryOctet(t *testing.T) {
	want := [256]int{}
	for c := range everyScalar {
		s := octets(c)
		want[s[0]] = len(s)
	}
	for c := range 256 {
		if got := Starts(byte(c)); got != want[c] {
			t.Errorf("Starts(%#x) = %d, want %d", c, got, want[c])
		}
	}
}

func TestFollows(t *testing.T) {
	for c := range 256 {
		if got := Follows(byte(c)); got != (c >= 0x80 && c <= 0xBF) {
			t.Errorf("Follows(%#x) = %v", c, got)
		}
	}
}

// P4.2

func TestTakeAndSubpart(t *testing.T) {
	cases := []struct {
		s       string
		want    taken
		subpart int
	}{
		{"", taken{0, 0, api.ErrEnd}, 0},
		{"A", taken{'A', 1, api.OK}, 0},
		{"\x00", taken{0, 1, api.OK}, 0},
		{"\x00\x00", taken{0, 1, api.OK}, 0},
		{"A\xFF", taken{'A', 1, api.OK}, 0},
		{"\xC3\xA9", taken{0xE9, 2, api.OK}, 0},
		{"\xC3\xA9\xC3", taken{0xE9, 2, api.OK}, 0},
		{"\xC3\xA9\xA9", taken{0xE9, 2, api.OK}, 0},
		{"\xE2\x82\xAC", taken{0x20AC, 3, api.OK}, 0},
		{"\xEF\xBF\xBD", taken{0xFFFD, 3, api.OK}, 0},
		{"\xF0\x9F\x98\x80x", taken{0x1F600, 4, api.OK}, 0},
		{"\xF4\x8F\xBF\xBF", taken{0x10FFFF, 4, api.OK}, 0},
		// Well formed so far, and alone.
		{"\xC3", taken{0, 1, api.ErrEnd}, 1},
		{"\xE2", taken{0, 1, api.ErrEnd}, 1},
		{"\xE2\x82", taken{0, 2, api.ErrEnd}, 2},
		{"\xF0", taken{0, 1, api.ErrEnd}, 1},
		{"\xF0\x9F", taken{0, 2, api.ErrEnd}, 2},
		{"\xF0\x9F\x98", taken{0, 3, api.ErrEnd}, 3},
		{"\xF4\x8F", taken{0, 2, api.ErrEnd}, 2},
		{"\xED\x9F", taken{0, 2, api.ErrEnd}, 2},
		// Well formed so far, with something else behind.
		{"\xC3A", taken{0, 1, api.ErrForm}, 1},
		{"\xC3\xC3\xA9", taken{0, 1, api.ErrForm}, 1},
		{"\xE2\x82A", taken{0, 2, api.ErrForm}, 2},
		{"\xE2\x82\xE2\x82\xAC", taken{0, 2, api.ErrForm}, 2},
		{"\xE2A", taken{0, 1, api.ErrForm}, 1},
		{"\xF0\x9F\x98A", taken{0, 3, api.ErrForm}, 3},
		{"\xF0\x9F\x98\xFF", taken{0, 3, api.ErrForm}, 3},
		{"\xF0\x9FAB", taken{0, 2, api.ErrForm}, 2},
		// Nothing begins so.
		{"\x80", taken{0, 1, api.ErrForm}, 1},
		{"\xBF", taken{0, 1, api.ErrForm}, 1},
		{"\x80\x80\x80", taken{0, 1, api.ErrForm}, 1},
		{"\xC0", taken{0, 1, api.ErrForm}, 1},
		{"\xC0\x80", taken{0, 1, api.ErrForm}, 1},
		{"\xC1\xBF", taken{0, 1, api.ErrForm}, 1},
		{"\xF5", taken{0, 1, api.ErrForm}, 1},
		{"\xF5\x80\x80\x80", taken{0, 1, api.ErrForm}, 1},
		{"\xF8\x88\x80\x80\x80", taken{0, 1, api.ErrForm}, 1},
		{"\xFE", taken{0, 1, api.ErrForm}, 1},
		{"\xFF\x41", taken{0, 1, api.ErrForm}, 1},
		// Longer than need be, surrogates, and beyond the last one.
		{"\xE0\x80\x80", taken{0, 1, api.ErrForm}, 1},
		{"\xE0\x9F\xBF", taken{0, 1, api.ErrForm}, 1},
		{"\xE0\x9F", taken{0, 1, api.ErrForm}, 1},
		{"\xE0\xA0", taken{0, 2, api.ErrEnd}, 2},
		{"\xE0\xA0\x80", taken{0x800, 3, api.OK}, 0},
		{"\xED\xA0", taken{0, 1, api.ErrForm}, 1},
		{"\xED\xA0\x80", taken{0, 1, api.ErrForm}, 1},
		{"\xED\xBF\xBF", taken{0, 1, api.ErrForm}, 1},
		{"\xF0\x8F\xBF\xBF", taken{0, 1, api.ErrForm}, 1},
		{"\xF0\x80\x80\x80", taken{0, 1, api.ErrForm}, 1},
		{"\xF0\x90\x80\x80", taken{0x10000, 4, api.OK}, 0},
		{"\xF4\x90\x80\x80", taken{0, 1, api.ErrForm}, 1},
		{"\xF4\x90", taken{0, 1, api.ErrForm}, 1},
		{"\xF4\xBF\xBF\xBF", taken{0, 1, api.ErrForm}, 1},
	}
	for _, x := range cases {
		if got := take([]byte(x.s)); got != x.want {
			t.Errorf("Take(% x) = %v, want %v", x.s, got, x.want)
		}
		if got := Subpart([]byte(x.s)); got != x.subpart {
			t.Errorf("Subpart(% x) = %d, want %d", x.s, got, x.subpart)
		}
	}
	if got := take(nil); got != (taken{0, 0, api.ErrEnd}) || Subpart(nil) != 0 {
		t.Errorf("Take(nil) = %v, Subpart(nil) = %d", got, Subpart(nil))
	}
}

func TestEveryShortList(t *testing.T) {
	begun := beginnings()
	askAll(t, nil, begun)
	thirds := []byte{0x00, 'A', 0x7F, 0x80, 0x9F, 0xA0, 0xBF, 0xC0, 0xE2, 0xFF}
	fourths := []byte{'A', 0x7F, 0x80, 0xBF, 0xC0, 0xFF}
	for a := range 256 {
		askAll(t, []byte{byte(a)}, begun)
		for b := range 256 {
			askAll(t, []byte{byte(a), byte(b)}, begun)
			for _, c := range thirds {
				askAll(t, []byte{byte(a), byte(b), c}, begun)
				for _, d := range fourths {
					askAll(t, []byte{byte(a), byte(b), c, d}, begun)
				}
			}
		}
	}
}

func TestEveryThirdAndFourth(t *testing.T) {
	begun := beginnings()
	heads := []string{"\xE0\xA0", "\xE0\x9F", "\xE2\x82", "\xED\x9F", "\xED\xA0", "\xEF\xBF",
		"\xF0\x8F", "\xF0\x90", "\xF1\x80", "\xF3\xBF", "\xF4\x8F", "\xF4\x90", "\xF5\x80", "\xC3\xA9"}
	for _, head := range heads {
		for c := range 256 {
			s := append([]byte(head), byte(c))
			askAll(t, s, begun)
			for d := range 256 {
				askAll(t, append(s, byte(d)), begun)
			}
		}
	}
}

func TestEveryBeginningBeforeEveryOctet(t *testing.T) {
	begun := beginnings()
	for k := range begun {
		s := k.s[:k.many]
		if got := take(s); got != (taken{0, k.many, api.ErrEnd}) {
			t.Fatalf("Take(% x) = %v", s, got)
		}
		for c := range 256 {
			askAll(t, append(slices.Clone(s), byte(c)), begun)
		}
	}
}

// P4.3

func TestWhatIsPutIsTaken(t *testing.T) {
	tails := []string{"", "A", "\x80", "\xBF", "\xFF", "\xE2\x82\xAC"}
	for c := range everyScalar {
		for _, tail := range tails {
			s, _ := Put(nil, c)
			if got := take(append(s, tail...)); got != (taken{c, Len(c), api.OK}) {
				t.Fatalf("%#x is put before % x, and taken as %v", c, tail, got)
			}
		}
		s, _ := Put(nil, c)
		if Subpart(s) != 0 || Starts(s[0]) != len(s) {
			t.Fatalf("of % x Subpart is %d, Starts %d", s, Subpart(s), Starts(s[0]))
		}
	}
}

func TestWhatIsTakenIsPut(t *testing.T) {
	for a := range 256 {
		for b := range 256 {
			s := []byte{byte(a), byte(b), 0xAC, 0x80}
			c, many, err := Take(s)
			if err != api.OK {
				continue
			}
			if laid, err := Put(nil, c); !bytes.Equal(laid, s[:many]) || err != api.OK {
				t.Fatalf("of % x %#x is taken, and put as % x", s, c, laid)
			}
		}
	}
}

func TestARowOfSigns(t *testing.T) {
	text := []rune{'a', 0xE9, 0x20AC, 0x1F600, 0, 0x10FFFF, 0xFFFD, 0x7FF, 0x800}
	var s []byte
	for _, c := range text {
		s, _ = Put(s, c)
	}
	if string(s) != string(text) {
		t.Fatalf("the row is put as % x", s)
	}
	for _, want := range text {
		c, many, err := Take(s)
		if c != want || many != Len(want) || err != api.OK {
			t.Fatalf("%#x is taken as %#x, %d, %d", want, c, many, err)
		}
		s = s[many:]
	}
}

// P4.4

func TestNoTwoSignsAreAlike(t *testing.T) {
	whole := map[key]rune{}
	for c := range everyScalar {
		s, _ := Put(nil, c)
		if other, ok := whole[keyOf(s)]; ok {
			t.Fatalf("%#x and %#x have the same octets", other, c)
		}
		whole[keyOf(s)] = c
	}
	for c := range everyScalar {
		s, _ := Put(nil, c)
		for n := range len(s) {
			if other, ok := whole[keyOf(s[:n])]; ok {
				t.Fatalf("the octets of %#x begin those of %#x", other, c)
			}
		}
	}
}

// R4

func TestArgumentsAreLeft(t *testing.T) {
	for _, text := range []string{"", "a", "\xE2\x82\xAC", "\xE2\x82", "\xFF", "\xC3\xA9x"} {
		s := roomy(text)
		for i := range room(s) {
			room(s)[i] = 0x82
		}
		Put(s, 'c')
		Put(s, 0x1F600)
		Put(s, 0xD800)
		Take(s)
		Subpart(s)
		if string(s) != text {
			t.Errorf("of % x % x is left", text, s)
		}
		if !bytes.Equal(room(s), bytes.Repeat([]byte{0x82}, len(room(s)))) {
			t.Errorf("behind % x % x is written", text, room(s))
		}
	}
}

func TestAnswersShareNothing(t *testing.T) {
	for _, c := range []rune{'c', 0xE9, 0x20AC, 0x1F600} {
		for _, text := range []string{"", "b", "before"} {
			s := roomy(text)
			answer, _ := Put(s, c)
			before := string(answer)
			again, _ := Put(s, c)
			fill(again)
			if string(s) != text || string(answer) != before {
				t.Errorf("writing into an answer leaves %q of %q, and turns %q to %q", s, text, before, answer)
			}
			fill(s)
			if string(answer) != before {
				t.Errorf("the answer %q turns to %q", before, answer)
			}
			if third, _ := Put([]byte(text), c); string(third) != before {
				t.Errorf("Put is %q, and later %q", before, third)
			}
		}
	}
}

func TestPutTwiceBehindOneList(t *testing.T) {
	b := roomy("b")
	first, _ := Put(b, 0xE9)
	second, _ := Put(b, 0x20AC)
	if string(first) != "b\xC3\xA9" || string(second) != "b\xE2\x82\xAC" {
		t.Errorf("% x and % x stand behind one list", first, second)
	}
}

func TestSpareCapacityTurnsNothing(t *testing.T) {
	spare := []byte("\xE2\x82\xAC\x80")
	cases := []struct {
		many int
		want taken
	}{
		{0, taken{0, 0, api.ErrEnd}},
		{1, taken{0, 1, api.ErrEnd}},
		{2, taken{0, 2, api.ErrEnd}},
		{3, taken{0x20AC, 3, api.OK}},
	}
	for _, x := range cases {
		if got := take(spare[:x.many]); got != x.want {
			t.Errorf("Take of %d octets is %v, want %v", x.many, got, x.want)
		}
	}
	if Subpart(spare[:0]) != 0 || Subpart(spare[:2]) != 2 {
		t.Error("Subpart reads behind the end")
	}
}
