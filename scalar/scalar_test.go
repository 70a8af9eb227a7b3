package scalar

import (
	"math"
	"slices"
	"testing"

	"sheave/api"
)

// scalarValue is whether a number is a scalar value as the document has it,
// reckoned in a wider type.
func scalarValue(c rune) bool {
	n := int64(c)
	return n >= 0 && n <= 0x10FFFF && (n < 0xD800 || n > 0xDFFF)
}

// edges are the numbers where something begins or ends, and those beside them.
func edges() []rune {
	var out []rune
	for _, c := range []rune{0, 10, 13, 32, 126, 255, 0xD800, 0xDBFF, 0xDC00, 0xDFFF, 0xFFFD, 0xFFFF, 0x10000, 0x1FFFF, 0x10FFFF} {
		out = append(out, c-1, c, c+1)
	}
	return append(out, math.MinInt32, math.MinInt32+1, math.MaxInt32-1, math.MaxInt32,
		-0xD800, -0x10000, -0x10FFFF, 0xD800+1<<16, 0xD800+1<<20, 1<<24, 1<<30)
}

// roomy is a list with room behind its end.
func roomy(t []rune) []rune { return append(make([]rune, 0, 64), t...) }

// writeOver fills a list to its capacity, so that memory that is shared shows.
func writeOver(t []rune) {
	t = t[:cap(t)]
	for i := range t {
		t[i] = 'X'
	}
}

// P3.1

func TestIsAndSurrogateAndPlane(t *testing.T) {
	cases := []struct {
		c         rune
		is        bool
		surrogate bool
		plane     int
	}{
		{0, true, false, 0},
		{'a', true, false, 0},
		{127, true, false, 0},
		{128, true, false, 0},
		{0xE9, true, false, 0},
		{0x20AC, true, false, 0},
		{0xD7FF, true, false, 0},
		{0xD800, false, true, -1},
		{0xD801, false, true, -1},
		{0xDBFF, false, true, -1},
		{0xDC00, false, true, -1},
		{0xDFFE, false, true, -1},
		{0xDFFF, false, true, -1},
		{0xE000, true, false, 0},
		{0xFFFD, true, false, 0},
		{0xFFFE, true, false, 0},
		{0xFFFF, true, false, 0},
		{0x10000, true, false, 1},
		{0x1F600, true, false, 1},
		{0x1FFFF, true, false, 1},
		{0x20000, true, false, 2},
		{0x1D800, true, false, 1},
		{0xFFFFF, true, false, 15},
		{0x100000, true, false, 16},
		{0x10D800, true, false, 16},
		{0x10FFFF, true, false, 16},
		{0x110000, false, false, -1},
		{0x200000, false, false, -1},
		{-1, false, false, -1},
		{-0xD800, false, false, -1},
		{-0x10000, false, false, -1},
		{math.MaxInt32, false, false, -1},
		{math.MinInt32, false, false, -1},
	}
	for _, x := range cases {
		if got := Is(x.c); got != x.is {
			t.Errorf("Is(%#x) = %v", x.c, got)
		}
		if got := Surrogate(x.c); got != x.surrogate {
			t.Errorf("Surrogate(%#x) = %v", x.c, got)
		}
		if got := Plane(x.c); got != x.plane {
			t.Errorf("Plane(%#x) = %d, want %d", x.c, got, x.plane)
		}
	}
}

func TestEveryNumber(t *testing.T) {
	scalars, surrogates := 0, 0
	planes := map[int]int{}
	for c := rune(-0x1000); c <= 0x120000; c++ {
		is := scalarValue(c)
		if Is(c) != is {
			t.Fatalf("Is(%#x) = %v", c, Is(c))
		}
		if Surrogate(c) != (c >= 0xD800 && c <= 0xDFFF) {
			t.Fatalf("Surrogate(%#x) = %v", c, Surrogate(c))
		}
		plane := -1
		if is {
			plane = int(c) / 0x10000
			scalars++
		}
		if Plane(c) != plane {
			t.Fatalf("Plane(%#x) = %d, want %d", c, Plane(c), plane)
		}
		if Surrogate(c) {
			surrogates++
		}
		planes[Plane(c)]++
	}
	if scalars != 0x110000-0x800 || surrogates != 0x800 {
		t.Errorf("%d scalar values and %d surrogates", scalars, surrogates)
	}
	for p := 1; p <= 16; p++ {
		if planes[p] != 0x10000 {
			t.Errorf("plane %d has %d", p, planes[p])
		}
	}
	if planes[0] != 0x10000-0x800 {
		t.Errorf("plane 0 has %d", planes[0])
	}
}

func TestFirstAndRightAndMend(t *testing.T) {
	cases := []struct {
		text   []rune
		first  int
		mended []rune
	}{
		{nil, -1, nil},
		{[]rune{}, -1, nil},
		{[]rune{97}, -1, []rune{97}},
		{[]rune{0}, -1, []rune{0}},
		{[]rune{13, 10}, -1, []rune{13, 10}},
		{[]rune{0x10FFFF}, -1, []rune{0x10FFFF}},
		{[]rune{0xFFFD}, -1, []rune{0xFFFD}},
		{[]rune{97, 0xD800}, 1, []rune{97, 0xFFFD}},
		{[]rune{0xD800}, 0, []rune{0xFFFD}},
		{[]rune{0xDFFF, 97}, 0, []rune{0xFFFD, 97}},
		{[]rune{0xD83D, 0xDE00}, 0, []rune{0xFFFD, 0xFFFD}},
		{[]rune{0xD7FF, 0xE000}, -1, []rune{0xD7FF, 0xE000}},
		{[]rune{97, 0x110000, 98, 0xD800, 99}, 1, []rune{97, 0xFFFD, 98, 0xFFFD, 99}},
		{[]rune{97, 98, -1}, 2, []rune{97, 98, 0xFFFD}},
		{[]rune{math.MinInt32, math.MaxInt32, 0x1F600}, 0, []rune{0xFFFD, 0xFFFD, 0x1F600}},
		{[]rune{0xFFFD, 0xD800, 0xFFFD}, 1, []rune{0xFFFD, 0xFFFD, 0xFFFD}},
	}
	for _, x := range cases {
		if got := First(x.text); got != x.first {
			t.Errorf("First(%x) = %d, want %d", x.text, got, x.first)
		}
		if got := Right(x.text); got != (x.first == -1) {
			t.Errorf("Right(%x) = %v", x.text, got)
		}
		if got := Mend(x.text); !slices.Equal(got, x.mended) {
			t.Errorf("Mend(%x) = %x, want %x", x.text, got, x.mended)
		}
	}
}

func TestFirstAtEveryPlace(t *testing.T) {
	for _, wrong := range []rune{-1, 0xD800, 0xDFFF, 0x110000, math.MinInt32, math.MaxInt32} {
		for n := 1; n <= 9; n++ {
			for at := range n {
				text := slices.Repeat([]rune{97}, n)
				text[at] = wrong
				text[n-1] = wrong
				if got := First(text); got != at {
					t.Errorf("First(%x) = %d, want %d", text, got, at)
				}
				if Right(text) {
					t.Errorf("Right(%x)", text)
				}
			}
		}
	}
}

func TestPairsOfEdges(t *testing.T) {
	for _, a := range edges() {
		for _, b := range edges() {
			first := -1
			mended := []rune{a, b}
			for i := 1; i >= 0; i-- {
				if !scalarValue(mended[i]) {
					first, mended[i] = i, 0xFFFD
				}
			}
			text := []rune{a, b}
			if First(text) != first || Right(text) != (first < 0) || !slices.Equal(Mend(text), mended) {
				t.Fatalf("of %x: First %d, Right %v, Mend %x", text, First(text), Right(text), Mend(text))
			}
		}
	}
}

// P3.2

func TestEndsAndCheck(t *testing.T) {
	cases := []struct {
		text []rune
		ends bool
		err  api.Errno
	}{
		{nil, false, api.OK},
		{[]rune{}, false, api.OK},
		{[]rune{97}, false, api.OK},
		{[]rune{13}, true, api.ErrControl},
		{[]rune{10}, true, api.ErrControl},
		{[]rune{0}, true, api.ErrControl},
		{[]rune{97, 0}, true, api.ErrControl},
		{[]rune{10, 97}, true, api.ErrControl},
		{[]rune{97, 13, 10, 98}, true, api.ErrControl},
		{[]rune{9, 11, 12, 14, 32, 127}, false, api.OK},
		{[]rune{1, 2, 8, 31}, false, api.OK},
		{[]rune{0x85, 0x2028, 0x2029}, false, api.OK},
		{[]rune{0x10A, 0x10D, 0x100, 0x1000A, 0x10000}, false, api.OK},
		{[]rune{0x10FFFF, 0xD7FF, 0xE000}, false, api.OK},
		{[]rune{0xD800}, false, api.ErrScalar},
		{[]rune{0xDFFF}, false, api.ErrScalar},
		{[]rune{-1}, false, api.ErrScalar},
		{[]rune{-10, -13}, false, api.ErrScalar},
		{[]rune{0x110000}, false, api.ErrScalar},
		{[]rune{math.MinInt32}, false, api.ErrScalar},
		{[]rune{math.MaxInt32}, false, api.ErrScalar},
		{[]rune{10, 0xD800}, true, api.ErrScalar},
		{[]rune{0xD800, 10}, true, api.ErrScalar},
		{[]rune{0, 97, -1}, true, api.ErrScalar},
		{[]rune{97, 13, 0x110000, 98}, true, api.ErrScalar},
	}
	for _, x := range cases {
		if got := Ends(x.text); got != x.ends {
			t.Errorf("Ends(%x) = %v", x.text, got)
		}
		if got := Check(x.text); got != x.err {
			t.Errorf("Check(%x) = %d, want %d", x.text, got, x.err)
		}
	}
}

func TestCheckOfEveryNumber(t *testing.T) {
	for c := rune(-0x1000); c <= 0x120000; c++ {
		ends := c == 13 || c == 10 || c == 0
		want := api.OK
		switch {
		case !scalarValue(c):
			want = api.ErrScalar
		case ends:
			want = api.ErrControl
		}
		text := []rune{97, c, 98}
		if Ends(text) != ends || Check(text) != want {
			t.Fatalf("of %x: Ends %v, Check %d, want %v, %d", text, Ends(text), Check(text), ends, want)
		}
	}
}

func TestPlain(t *testing.T) {
	for c := rune(-0x1000); c <= 0x120000; c++ {
		want := c >= 32 && c <= 126
		for _, text := range [][]rune{{c}, {c, 97}, {97, c}} {
			if Plain(text) != want {
				t.Fatalf("Plain(%x) = %v", text, !want)
			}
		}
	}
	for _, c := range []rune{math.MinInt32, math.MaxInt32, -97, 97 + 1<<8, 97 + 1<<16, 97 + 1<<24} {
		if Plain([]rune{c}) {
			t.Errorf("%x is plain", c)
		}
	}
	if !Plain(nil) || !Plain([]rune{}) {
		t.Error("nothing is not plain")
	}
	if !Plain([]rune(" All of it, ~ too!")) || Plain([]rune("All\tof it")) {
		t.Error("a text is asked wrongly")
	}
}

func TestMost(t *testing.T) {
	cases := []struct {
		text []rune
		want rune
	}{
		{nil, 0},
		{[]rune{}, 0},
		{[]rune{0}, 0},
		{[]rune{97}, 97},
		{[]rune{97, 98}, 98},
		{[]rune{98, 97}, 98},
		{[]rune{97, 0x20AC, 98}, 0x20AC},
		{[]rune{97, 97}, 97},
		{[]rune{-1}, 0},
		{[]rune{-5, -3, -4}, 0},
		{[]rune{math.MinInt32}, 0},
		{[]rune{-1, 7}, 7},
		{[]rune{7, -1}, 7},
		{[]rune{0x10FFFF, 0xD800}, 0x10FFFF},
		{[]rune{97, 0xD800}, 0xD800},
		{[]rune{0x10FFFF, 0x110000}, 0x110000},
		{[]rune{math.MaxInt32, 97, math.MinInt32}, math.MaxInt32},
	}
	for _, x := range cases {
		if got := Most(x.text); got != x.want {
			t.Errorf("Most(%x) = %x, want %x", x.text, got, x.want)
		}
	}
	for _, a := range edges() {
		for _, b := range edges() {
			if got := Most([]rune{a, b}); got != max(0, a, b) {
				t.Fatalf("Most(%x, %x) = %x", a, b, got)
			}
		}
	}
}

func TestSame(t *testing.T) {
	cases := []struct {
		a, b []rune
		want bool
	}{
		{nil, nil, true},
		{nil, []rune{}, true},
		{[]rune{}, nil, true},
		{[]rune{}, []rune{}, true},
		{nil, []rune{0}, false},
		{[]rune{0}, nil, false},
		{[]rune{97}, []rune{97}, true},
		{[]rune{97}, []rune{65}, false},
		{[]rune{97}, []rune{97 + 1<<16}, false},
		{[]rune{97, 98}, []rune{97}, false},
		{[]rune{97}, []rune{97, 98}, false},
		{[]rune{97, 0}, []rune{97}, false},
		{[]rune{97, 98}, []rune{98, 97}, false},
		{[]rune{97, 98, 99}, []rune{97, 98, 99}, true},
		{[]rune{97, 98, 99}, []rune{97, 98, 100}, false},
		{[]rune{97, 98, 99}, []rune{96, 98, 99}, false},
		{[]rune{0xD800}, []rune{0xFFFD}, false},
		{[]rune{0xD800}, []rune{0xD800}, true},
		{[]rune{-1, math.MinInt32}, []rune{-1, math.MinInt32}, true},
		{[]rune{-1}, []rune{math.MaxInt32}, false},
		{[]rune{0xE9}, []rune{0x65, 0x301}, false},
	}
	for _, x := range cases {
		if got := Same(x.a, x.b); got != x.want {
			t.Errorf("Same(%x, %x) = %v", x.a, x.b, got)
		}
	}
	for _, a := range edges() {
		for _, b := range edges() {
			if got := Same([]rune{97, a}, []rune{97, b}); got != (a == b) {
				t.Fatalf("Same of %x and %x is %v", a, b, got)
			}
		}
	}
}

// P3.3

func TestWhatIsMendedIsRight(t *testing.T) {
	all := make([]rune, 0, 0x112000)
	for c := rune(-0x1000); c <= 0x111000; c++ {
		all = append(all, c)
	}
	texts := [][]rune{nil, {}, {97, 0xD800}, edges(), all}
	for _, a := range edges() {
		for _, b := range edges() {
			texts = append(texts, []rune{a}, []rune{a, b}, []rune{a, 97, b})
		}
	}
	for _, text := range texts {
		mended := Mend(text)
		if len(mended) != len(text) || !Right(mended) || First(mended) != -1 {
			t.Fatalf("%d numbers are mended to %d, right: %v", len(text), len(mended), Right(mended))
		}
		if !Same(Mend(mended), mended) {
			t.Fatal("what is mended is not mended to itself")
		}
		if Same(mended, text) != Right(text) {
			t.Fatalf("of right %v: mended to itself %v", Right(text), Same(mended, text))
		}
	}
}

// R4

func TestArgumentsAreLeft(t *testing.T) {
	for _, text := range [][]rune{nil, {97}, {97, 0xD800}, {-1, 0x110000, 13}, {0, 10, 0xFFFD}} {
		s := roomy(text)
		room := s[len(s):cap(s)]
		for i := range room {
			room[i] = 7
		}
		Right(s)
		First(s)
		Mend(s)
		Ends(s)
		Check(s)
		Plain(s)
		Most(s)
		Same(s, s)
		if !slices.Equal(s, text) {
			t.Errorf("of %x %x is left", text, s)
		}
		for _, c := range room {
			if c != 7 {
				t.Errorf("behind %x %x is written", text, c)
			}
		}
	}
}

func TestAnswersShareNothing(t *testing.T) {
	for _, text := range [][]rune{nil, {}, {97, 98}, {97, 0xD800}, {-1, 0x110000, 13}} {
		s := roomy(text)
		answer := Mend(s)
		before := slices.Clone(answer)
		writeOver(Mend(s))
		if !slices.Equal(s, text) || !slices.Equal(answer, before) {
			t.Errorf("writing into an answer leaves %x of %x, and turns %x to %x", s, text, before, answer)
		}
		writeOver(s)
		if !slices.Equal(answer, before) {
			t.Errorf("the answer %x turns to %x", before, answer)
		}
		if again := Mend(text); !slices.Equal(again, before) {
			t.Errorf("Mend(%x) is %x, and later %x", text, before, again)
		}
	}
}

func TestSpareCapacityTurnsNothing(t *testing.T) {
	spare := []rune{97, 98, 0xD800, 13, 0x110000}[:2]
	if First(spare) != -1 || !Right(spare) || Ends(spare) || Check(spare) != api.OK || !Plain(spare) {
		t.Error("what lies behind the end is asked")
	}
	if Most(spare) != 98 || !Same(spare, []rune{97, 98}) || !Same([]rune{97, 98}, spare) {
		t.Error("what lies behind the end is counted")
	}
	if got := Mend(spare); !slices.Equal(got, []rune{97, 98}) {
		t.Errorf("Mend is %x", got)
	}
}
