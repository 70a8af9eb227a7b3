package bound

import (
	"bytes"
	"math"
	"math/rand"
	"slices"
	"testing"
	"unicode/utf8"
)

// seconds are the least and the greatest octet that may stand behind a first
// one, and how many octets there are then; written out, as no other code has it.
func seconds(first byte) (least, most byte, whole int) {
	switch {
	case first >= 0xC2 && first <= 0xDF:
		return 0x80, 0xBF, 2
	case first == 0xE0:
		return 0xA0, 0xBF, 3
	case first == 0xED:
		return 0x80, 0x9F, 3
	case first >= 0xE1 && first <= 0xEF:
		return 0x80, 0xBF, 3
	case first == 0xF0:
		return 0x90, 0xBF, 4
	case first >= 0xF1 && first <= 0xF3:
		return 0x80, 0xBF, 4
	case first == 0xF4:
		return 0x80, 0x8F, 4
	}
	return 0, 0, 0
}

// first is how long the sign, or the maximal subpart, is at the beginning of
// octets that are some.
func first(s []byte) int {
	least, most, whole := seconds(s[0])
	if whole == 0 || len(s) == 1 || s[1] < least || s[1] > most {
		return 1
	}
	many := 2
	for many < len(s) && many < whole && s[many] >= 0x80 && s[many] <= 0xBF {
		many++
	}
	return many
}

// isPlace tells of each number up to the length whether it is a place.
func isPlace(s []byte) []bool {
	out := make([]bool, len(s)+1)
	at := 0
	for at < len(s) {
		out[at] = true
		at += first(s[at:])
	}
	out[at] = true
	return out
}

// above is the least place above a number, and whether there is one.
func above(place []bool, n int) (int, bool) {
	for p := 0; p < len(place); p++ {
		if place[p] && p > n {
			return p, true
		}
	}
	return 0, false
}

// upTo is the greatest place that is at most a number, and whether there is
// one.
func upTo(place []bool, n int) (int, bool) {
	for p := len(place) - 1; p >= 0; p-- {
		if place[p] && p <= n {
			return p, true
		}
	}
	return 0, false
}

// expectedPieces are the pieces as the document has them, one by one.
func expectedPieces(s []byte, place []bool, most int) []string {
	var out []string
	for from := 0; from < len(s); {
		to, _ := above(place, from)
		for longer := to; longer < len(place) && longer-from <= most; longer++ {
			if place[longer] {
				to = longer
			}
		}
		out = append(out, string(s[from:to]))
		from = to
	}
	return out
}

// asStrings are pieces as texts, that can be compared.
func asStrings(pieces [][]byte) []string {
	var out []string
	for _, p := range pieces {
		out = append(out, string(p))
	}
	return out
}

// askPlace holds what the package tells of one number.
func askPlace(t *testing.T, s []byte, place []bool, n int) {
	t.Helper()
	if got, want := At(s, n), n >= 0 && n < len(place) && place[n]; got != want {
		t.Fatalf("At(% x, %d) = %v", s, n, got)
	}
	want, ok := above(place, n)
	if !ok {
		want = len(s)
	}
	if got := Next(s, n); got != want {
		t.Fatalf("Next(% x, %d) = %d, want %d", s, n, got, want)
	}
	want = 0
	if n > 0 {
		want, _ = upTo(place, n-1)
	}
	if got := Back(s, n); got != want {
		t.Fatalf("Back(% x, %d) = %d, want %d", s, n, got, want)
	}
}

// askPieces holds what the package tells of one greatest length.
func askPieces(t *testing.T, s []byte, place []bool, most int) {
	t.Helper()
	end, _ := upTo(place, most)
	if got := Cut(s, most); !bytes.Equal(got, s[:end]) {
		t.Fatalf("Cut(% x, %d) = % x, want % x", s, most, got, s[:end])
	}
	want := expectedPieces(s, place, most)
	if got := Split(s, most); !slices.Equal(asStrings(got), want) {
		t.Fatalf("Split(% x, %d) = % x, want % x", s, most, got, want)
	}
}

// far are numbers that lie far away, where one more or less wraps round.
func far() []int {
	return []int{math.MinInt, math.MinInt + 1, math.MinInt32, -1000, -3, -2, -1,
		1000, math.MaxInt32, math.MaxInt32 + 1, math.MaxInt - 2, math.MaxInt - 1, math.MaxInt}
}

// ask holds all that the package tells of octets against what is expected.
func ask(t *testing.T, s []byte) {
	t.Helper()
	place := isPlace(s)
	var want []int
	for p, is := range place {
		if is {
			want = append(want, p)
		}
	}
	if got := Places(s); !slices.Equal(got, want) {
		t.Fatalf("Places(% x) = %v, want %v", s, got, want)
	}
	numbers := far()
	for n := range len(s) + 3 {
		numbers = append(numbers, n)
	}
	for _, n := range numbers {
		askPlace(t, s, place, n)
		askPieces(t, s, place, n)
		nth := 0
		switch {
		case n >= len(want):
			nth = len(s)
		case n >= 0:
			nth = want[n]
		}
		if got := Nth(s, n); got != nth {
			t.Fatalf("Nth(% x, %d) = %d, want %d", s, n, got, nth)
		}
	}
}

// rows hands on every row of so many octets out of some, in one list that is
// written over.
func rows(octets []byte, many int) func(func([]byte) bool) {
	return func(yield func([]byte) bool) {
		row := make([]byte, many)
		places := make([]int, many)
		for {
			for i, p := range places {
				row[i] = octets[p]
			}
			if !yield(row) {
				return
			}
			i := many - 1
			for i >= 0 && places[i] == len(octets)-1 {
				places[i] = 0
				i--
			}
			if i < 0 {
				return
			}
			places[i]++
		}
	}
}

// edges are the octets where something begins or ends, and some between.
func edges() []byte {
	return []byte{0x00, 'A', 0x7F, 0x80, 0x8F, 0x90, 0x9F, 0xA0, 0xBF, 0xC0, 0xC1, 0xC2, 0xDF,
		0xE0, 0xE2, 0xED, 0xEF, 0xF0, 0xF1, 0xF4, 0xF5, 0xFF}
}

// parts are wholes and pieces of signs, to be put behind each other.
func parts() []string {
	return []string{"", "A", "\x00", "\xC3\xA9", "\xE2\x82\xAC", "\xEF\xBF\xBD", "\xF0\x9F\x98\x80", "\xF4\x8F\xBF\xBF",
		"\xC3", "\xE2", "\xE2\x82", "\xF0", "\xF0\x9F", "\xF0\x9F\x98", "\xE0\xA0", "\xED\x9F", "\xF4\x8F",
		"\x80", "\xBF\xBF", "\xC0\x80", "\xE0\x80\x80", "\xED\xA0\x80", "\xF0\x80\x80\x80", "\xF4\x90\x80\x80", "\xFF"}
}

// fill fills a list to its capacity, so that memory that is shared shows.
func fill[E any](s []E, with E) {
	s = s[:cap(s)]
	for i := range s {
		s[i] = with
	}
}

// roomy is a list with room behind its end, that is filled so as to go on with
// a sign that the list may end in.
func roomy(text string) []byte {
	s := append(make([]byte, 0, len(text)+32), text...)
	fill(s[len(s):], 0x82)
	return s
}

// P7.1

func TestPlaces(t *testing.T) {
	cases := []struct {
		s    string
		want []int
	}{
		{"", []int{0}},
		{"a", []int{0, 1}},
		{"\x00\r\n", []int{0, 1, 2, 3}},
		{"a\xC3\xA9", []int{0, 1, 3}},
		{"\xC3\xA9a", []int{0, 2, 3}},
		{"\xE2\x82\xAC\xF0\x9F\x98\x80z", []int{0, 3, 7, 8}},
		// Subparts: at the end, ahead of others, and what may not be so.
		{"\xC3", []int{0, 1}},
		{"\xE2\x82", []int{0, 2}},
		{"\xF0\x9F\x98", []int{0, 3}},
		{"\xE2\x82A", []int{0, 2, 3}},
		{"\xF0\x9F\x98\xC3\xA9", []int{0, 3, 5}},
		{"\xFF\xFE", []int{0, 1, 2}},
		{"\x80\x80", []int{0, 1, 2}},
		{"\xE2\x82\xAC\x80\x80", []int{0, 3, 4, 5}},
		{"\xC0\x80", []int{0, 1, 2}},
		{"\xE0\x80\x80", []int{0, 1, 2, 3}},
		{"\xED\xA0\x80", []int{0, 1, 2, 3}},
		{"\xF4\x90\x80\x80", []int{0, 1, 2, 3, 4}},
		{"\xF5\x80\x80\x80", []int{0, 1, 2, 3, 4}},
		{"\xC3\xC3\xA9", []int{0, 1, 3}},
	}
	for _, x := range cases {
		if got := Places([]byte(x.s)); !slices.Equal(got, x.want) {
			t.Errorf("Places(% x) = %v, want %v", x.s, got, x.want)
		}
	}
}

func TestAt(t *testing.T) {
	const text = "a\xC3\xA9\xE2\x82z"
	want := map[int]bool{0: true, 1: true, 3: true, 5: true, 6: true}
	for n := -10; n < 20; n++ {
		if got := At([]byte(text), n); got != want[n] {
			t.Errorf("At(% x, %d) = %v", text, n, got)
		}
	}
	for _, n := range far() {
		if At([]byte(text), n) || At(nil, n) {
			t.Errorf("At of %d, that lies far away", n)
		}
	}
	if !At(nil, 0) || !At([]byte{}, 0) || At(nil, 1) {
		t.Error("of no octets 0 is the one place")
	}
}

func TestNextAndBack(t *testing.T) {
	const text = "a\xC3\xA9\xE2\x82z"
	cases := []struct{ n, next, back int }{
		{math.MinInt, 0, 0}, {-2, 0, 0}, {-1, 0, 0},
		{0, 1, 0}, {1, 3, 0}, {2, 3, 1}, {3, 5, 1}, {4, 5, 3}, {5, 6, 3},
		{6, 6, 5}, {7, 6, 6}, {8, 6, 6}, {math.MaxInt, 6, 6},
	}
	for _, x := range cases {
		if got := Next([]byte(text), x.n); got != x.next {
			t.Errorf("Next(% x, %d) = %d, want %d", text, x.n, got, x.next)
		}
		if got := Back([]byte(text), x.n); got != x.back {
			t.Errorf("Back(% x, %d) = %d, want %d", text, x.n, got, x.back)
		}
	}
	for _, n := range append(far(), 0, 1) {
		if a, b := Next(nil, n), Back(nil, n); a != 0 || b != 0 {
			t.Errorf("of no octets and %d: %d and %d", n, a, b)
		}
	}
}

func TestNth(t *testing.T) {
	const text = "a\xC3\xA9\xE2\x82z"
	cases := []struct{ n, want int }{
		{math.MinInt, 0}, {-1, 0}, {0, 0}, {1, 1}, {2, 3}, {3, 5}, {4, 6}, {5, 6}, {6, 6}, {math.MaxInt, 6},
	}
	for _, x := range cases {
		if got := Nth([]byte(text), x.n); got != x.want {
			t.Errorf("Nth(% x, %d) = %d, want %d", text, x.n, got, x.want)
		}
	}
	for _, n := range append(far(), 0, 1) {
		if got := Nth(nil, n); got != 0 {
			t.Errorf("of no octets the place %d is %d", n, got)
		}
	}
}

// P7.2

func TestCut(t *testing.T) {
	const text = "a\xC3\xA9\xE2\x82z"
	cases := []struct {
		most int
		want string
	}{
		{math.MinInt, ""}, {-1, ""}, {0, ""},
		{1, "a"}, {2, "a"}, {3, "a\xC3\xA9"}, {4, "a\xC3\xA9"}, {5, "a\xC3\xA9\xE2\x82"},
		{6, text}, {7, text}, {math.MaxInt, text},
	}
	for _, x := range cases {
		if got := Cut([]byte(text), x.most); string(got) != x.want {
			t.Errorf("Cut(% x, %d) = % x, want % x", text, x.most, got, x.want)
		}
	}
	for _, most := range append(far(), 0, 1) {
		if a, b := Cut(nil, most), Cut([]byte{}, most); len(a) != 0 || len(b) != 0 {
			t.Errorf("Cut of no octets and %d is % x, % x", most, a, b)
		}
	}
}

func TestSplit(t *testing.T) {
	const smile = "\xF0\x9F\x98\x80"
	cases := []struct {
		s    string
		most int
		want []string
	}{
		{"a\xC3\xA9", 2, []string{"a", "\xC3\xA9"}},
		{"a\xC3\xA9", 3, []string{"a\xC3\xA9"}},
		{"a\xC3\xA9", 1, []string{"a", "\xC3\xA9"}},
		{"", 2, nil},
		{"abcdefg", 3, []string{"abc", "def", "g"}},
		{"abcdef", 3, []string{"abc", "def"}},
		{"abc", 4, []string{"abc"}},
		{"abc", math.MaxInt, []string{"abc"}},
		{"\xC3\xA9\xC3\xA9\xC3\xA9", 5, []string{"\xC3\xA9\xC3\xA9", "\xC3\xA9"}},
		// A sign that is longer stands alone, also between shorter ones.
		{"ab" + smile + "cd", 2, []string{"ab", smile, "cd"}},
		{smile + smile, 3, []string{smile, smile}},
		// Below one octet each sign stands alone.
		{"ab" + smile, 0, []string{"a", "b", smile}},
		{"ab" + smile, -1, []string{"a", "b", smile}},
		{"ab" + smile, math.MinInt, []string{"a", "b", smile}},
		// Subparts are not parted.
		{"\xE2\x82\xE2\x82A", 1, []string{"\xE2\x82", "\xE2\x82", "A"}},
		{"\xE2\x82\xE2\x82A", 3, []string{"\xE2\x82", "\xE2\x82A"}},
		{"\xF0\x9F\x98\xFF\xFF", 2, []string{"\xF0\x9F\x98", "\xFF\xFF"}},
		{"\x80\x80\x80", 2, []string{"\x80\x80", "\x80"}},
	}
	for _, x := range cases {
		if got := Split([]byte(x.s), x.most); !slices.Equal(asStrings(got), x.want) {
			t.Errorf("Split(% x, %d) = % x, want % x", x.s, x.most, got, x.want)
		}
	}
	for _, most := range append(far(), 0, 1) {
		if a, b := Split(nil, most), Split([]byte{}, most); len(a) != 0 || len(b) != 0 {
			t.Errorf("Split of no octets and %d is % x, % x", most, a, b)
		}
	}
}

// P7.1 and P7.2 of all that is short

func TestEveryOctetAndPair(t *testing.T) {
	ask(t, nil)
	ask(t, []byte{})
	for a := range 256 {
		ask(t, []byte{byte(a)})
		for b := range 256 {
			ask(t, []byte{byte(a), byte(b)})
		}
	}
}

func TestEveryRowOfEdges(t *testing.T) {
	for many := range 4 {
		for s := range rows(edges(), many) {
			ask(t, s)
		}
	}
	for s := range rows([]byte{'A', 0x80, 0x9F, 0xC3, 0xE2, 0xF0}, 5) {
		ask(t, s)
	}
}

func TestEveryRowOfParts(t *testing.T) {
	for _, a := range parts() {
		for _, b := range parts() {
			for _, c := range parts() {
				ask(t, []byte(a+b+c))
			}
		}
	}
}

func TestLongOctets(t *testing.T) {
	source := rand.New(rand.NewSource(7))
	for range 50 {
		var s []byte
		for len(s) < 300 {
			s = append(s, parts()[source.Intn(len(parts()))]...)
		}
		ask(t, s)
	}
	for c := rune(0); c <= 0x10FFFF; c += 0x101 {
		if utf8.ValidRune(c) {
			ask(t, []byte("b"+string(c)+string(c)+"e"))
		}
	}
}

// P7.3

func TestPiecesAreAll(t *testing.T) {
	look := func(s []byte) {
		for most := -1; most < len(s)+2; most++ {
			pieces := Split(s, most)
			at := 0
			for _, p := range pieces {
				if len(p) == 0 {
					t.Fatalf("a piece of Split(% x, %d) = % x is empty", s, most, pieces)
				}
				if !At(s, at) || len(p) > most && Next(s, at) != at+len(p) {
					t.Fatalf("the piece % x of Split(% x, %d) may not be", p, s, most)
				}
				at += len(p)
			}
			if got := slices.Concat(pieces...); !bytes.Equal(got, s) {
				t.Fatalf("the pieces of % x by %d are % x", s, most, got)
			}
		}
	}
	look(nil)
	for s := range rows(edges(), 3) {
		look(s)
	}
	for _, a := range parts() {
		for _, b := range parts() {
			look([]byte(a + b + "\xF0\x9F\x98\x80" + a))
		}
	}
}

// P7.4

func TestPiecesOfRightOctetsAreRight(t *testing.T) {
	source := rand.New(rand.NewSource(74))
	signs := []rune{0, 'a', 0x7F, 0x80, 0xE9, 0x7FF, 0x800, 0x20AC, 0xD7FF, 0xE000, 0xFFFD, 0xFFFF, 0x10000, 0x1F600, 0x10FFFF}
	for range 300 {
		var text []rune
		for range source.Intn(20) {
			text = append(text, signs[source.Intn(len(signs))])
		}
		s := []byte(string(text))
		for most := -1; most < len(s)+2; most++ {
			if got := Cut(s, most); !utf8.Valid(got) {
				t.Fatalf("Cut(% x, %d) = % x", s, most, got)
			}
			for _, p := range Split(s, most) {
				if !utf8.Valid(p) {
					t.Fatalf("% x is a piece of % x by %d", p, s, most)
				}
			}
		}
	}
}

// R4

func TestOctetsAreLeft(t *testing.T) {
	for _, a := range parts() {
		for _, b := range parts() {
			list := roomy(a + b)
			ask(t, list)
			if string(list) != a+b {
				t.Errorf("of % x % x is left", a+b, list)
			}
			for _, c := range list[len(list):cap(list)] {
				if c != 0x82 {
					t.Errorf("behind % x % x is written", a+b, c)
				}
			}
		}
	}
}

func TestAnswersShareNothing(t *testing.T) {
	for _, a := range parts() {
		for _, b := range parts() {
			text := a + b + "z"
			for most := range len(text) + 2 {
				sharesNothing(t, text, most)
			}
		}
	}
}

// sharesNothing writes into what is answered and into what was handed in, and
// looks whether anything else turns.
func sharesNothing(t *testing.T, text string, most int) {
	t.Helper()
	s := roomy(text)
	cut, pieces, places := Cut(s, most), Split(s, most), Places(s)
	wantCut, wantPieces, wantPlaces := string(cut), asStrings(pieces), slices.Clone(places)
	fill(Places(s), -7)
	fill(Cut(s, most), 'X')
	others := Split(s, most)
	for i, p := range others {
		fill(p, 'X')
		for j, q := range others[i+1:] {
			if string(q) != wantPieces[i+1+j] {
				t.Fatalf("the piece %d of % x by %d turns with the piece %d", i+1+j, text, most, i)
			}
		}
	}
	fill(others, nil)
	if string(s) != text {
		t.Fatalf("writing into the answers of % x by %d leaves % x", text, most, s)
	}
	fill(s, 'Y')
	if string(cut) != wantCut || !slices.Equal(asStrings(pieces), wantPieces) || !slices.Equal(places, wantPlaces) {
		t.Fatalf("the answers of % x by %d turn", text, most)
	}
	// Once more, in case an answer was kept.
	s = []byte(text)
	if string(Cut(s, most)) != wantCut || !slices.Equal(asStrings(Split(s, most)), wantPieces) || !slices.Equal(Places(s), wantPlaces) {
		t.Fatalf("the answers of % x by %d are others later", text, most)
	}
}

// R5

func TestNilAndEmptyAreTheSame(t *testing.T) {
	ask(t, nil)
	ask(t, []byte{})
	ask(t, roomy(""))
	for n := -3; n < 4; n++ {
		if Next(nil, n) != Next([]byte{}, n) || Back(nil, n) != Back([]byte{}, n) || Nth(nil, n) != Nth([]byte{}, n) || At(nil, n) != At([]byte{}, n) {
			t.Errorf("nil and empty differ at %d", n)
		}
	}
}
