package mseven

import (
	"fmt"
	"slices"
	"strings"
	"testing"
)

// textSamples are texts of all kinds.
func textSamples() [][]rune {
	return [][]rune{nil, []rune("a"), []rune("&"), []rune("\u00E9"), []rune("a&\u00E9"), []rune("\u00E9&"), []rune("a\u00E9b\u00E9"), {0x1F600}, {0xD800}, {'a', -1}, {0x10FFFF, 0xE9, 'a'}, someOf(ascii(), 300), someOf(signEdges, 300), someOf(wrongs, 30)}
}

// octetSamples are octets of all kinds.
func octetSamples() [][]byte {
	list := [][]byte{nil, allOctets(), someOf(octetEdges, 300), someOf([]byte(alphabet), 300)}
	for _, s := range []string{"a", "&", "&-", "&A", "&AOk", "&AOk-", "&AOk-a&AOk.", "&2D0", "&2D3eAA--", "AGE", "AOl", ",,8", "U,BTFw", "2D3eAA", "2AA", "//8", "\x80", "a\xFF&", "~&U,A-&-"} {
		list = append(list, []byte(s))
	}
	return list
}

// textRooms stand behind texts, so that a run would go on there, or an `&` stand behind it.
func textRooms() [][]rune { return [][]rune{{0xE9, 0xE9}, {'&', 0xE9}, {-1, -1}} }

// octetRooms stand behind octets, so that a run would go on there, or be closed.
func octetRooms() [][]byte { return [][]byte{[]byte(",Ok-"), []byte("-,Ok")} }

// roomy is a list with such a room behind its end.
func roomy[E any](s, room []E) []E { return slices.Concat(s, room)[:len(s)] }

// untouched tells whether such a list and its room are as they were.
func untouched[E comparable](s, as, room []E) bool {
	return slices.Equal(s[:len(s)+len(room)], slices.Concat(as, room))
}

// writeOver fills a list to its capacity, so that memory that is shared shows.
func writeOver[E any](s []E, with E) {
	s = s[:cap(s)]
	for i := range s {
		s[i] = with
	}
}

// toldOf is what the calls answer of octets, its numbers written out.
func toldOf(s []byte) string {
	t, right := Run(s)
	return fmt.Sprintf("read %X, a run %X, %t", Read(s), t, right)
}

// R5: nil and empty lists.
func TestNilAndEmpty(t *testing.T) {
	for _, text := range [][]rune{nil, {}, make([]rune, 0, 8)} {
		if got, want := told(text), (answers{}); got != want {
			t.Errorf("of no signs is told %v", got)
		}
	}
	for _, s := range [][]byte{nil, {}, make([]byte, 0, 8)} {
		if got := Read(s); len(got) != 0 {
			t.Errorf("of no octets is read %X", got)
		}
		if got, right := Run(s); len(got) != 0 || !right {
			t.Errorf("of no digits Run tells %X, %t", got, right)
		}
	}
}

// R3: the same again, whatever capacity a list has, and whatever stands behind its end.
func TestSameAnswersAgain(t *testing.T) {
	for _, text := range textSamples() {
		want := told(slices.Clip(text))
		for _, room := range textRooms() {
			if got := told(roomy(text, room)); got != want {
				t.Errorf("of %X is told %v, and then %v", text, want, got)
			}
		}
	}
	for _, s := range octetSamples() {
		want := toldOf(slices.Clip(s))
		for _, room := range octetRooms() {
			if got := toldOf(roomy(s, room)); got != want {
				t.Errorf("of %q is told %s, and then %s", s, want, got)
			}
		}
	}
}

// R4: lists are left as they are, and answers share nothing.

func TestListsAreLeft(t *testing.T) {
	for _, as := range textSamples() {
		for _, room := range textRooms() {
			text := roomy(as, room)
			told(text)
			if !untouched(text, as, room) {
				t.Errorf("%X was written into: %X", as, text[:cap(text)])
			}
		}
	}
	for _, as := range octetSamples() {
		for _, room := range octetRooms() {
			s := roomy(as, room)
			toldOf(s)
			if !untouched(s, as, room) {
				t.Errorf("%q was written into: %q", as, s[:cap(s)])
			}
		}
	}
}

// sharesNothing tells of a call whether its answers are the caller's own.
func sharesNothing[A, E comparable](t *testing.T, name string, samples [][]A, room []A, other A, with E, call func(s []A) []E) {
	for _, as := range samples {
		s := roomy(as, room)
		first := call(s)
		want := slices.Clone(first)
		writeOver(first, with)
		if !untouched(s, as, room) {
			t.Errorf("%s of %v answers what it was handed", name, as)
		}
		second := call(s)
		if !slices.Equal(second, want) {
			t.Errorf("%s of %v answers %v after a write, %v ahead", name, as, second, want)
		}
		writeOver(s, other)
		if !slices.Equal(second, want) {
			t.Errorf("%s of %v keeps what it was handed", name, as)
		}
	}
}

func TestAnswersShareNothing(t *testing.T) {
	texts, octets := textSamples(), octetSamples()
	sharesNothing(t, "Lay", texts, textRooms()[0], 'X', 'X', func(text []rune) []byte {
		s, _ := Lay(text)
		return s
	})
	sharesNothing(t, "Code", texts, textRooms()[0], 'X', 'X', Code)
	sharesNothing(t, "Read", octets, octetRooms()[0], 'X', -1, Read)
	sharesNothing(t, "Run", octets, octetRooms()[0], 'X', -1, func(d []byte) []rune {
		signs, _ := Run(d)
		return signs
	})
}

// The functions that yield each are stopped wherever one that asks them stops.
func TestYieldedUntilAskedNoMore(t *testing.T) {
	text, s := []rune("a\u00E9b\u00E9c"), []byte("a&AOk-b&-")
	for many := 1; many <= 3; many++ {
		var ahead strings.Builder
		left := many
		for one := range runs(text) {
			ahead.WriteString(string(one))
			if left--; left == 0 {
				break
			}
		}
		if got := ahead.String(); got != "abc"[:many] {
			t.Errorf("ahead of %d runs stands %q", many, got)
		}
	}
	for many := 1; many <= 4; many++ {
		var got []rune
		for digits, sign := range pieces(s) {
			if len(digits) > 0 {
				sign = 'R'
			}
			if got = append(got, sign); len(got) == many {
				break
			}
		}
		if want := "aRb&"[:many]; string(got) != want {
			t.Errorf("the first %d pieces are %q", many, string(got))
		}
	}
}
