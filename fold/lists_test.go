package fold

import (
	"fmt"
	"slices"
	"strings"
	"testing"
)

// samples are octets of all kinds.
func samples() [][]byte {
	list := [][]byte{nil, allOctets(), someOf(octetEdges, 300), someOf(foldEdges, 300), someOf([]byte("\r\n a"), 300)}
	for _, s := range []string{"a", " ", "\r", "\n", "\r\n", "\n\r", "\r\n ", "\r\n\t", "a\r\n", "a\r\n b", "a\r\n\r\n b", "ab cd ef", "abc", "a  b", "\x00", "\x80", strings.Repeat("abc ", 40)} {
		list = append(list, []byte(s))
	}
	return list
}

// rooms stand behind octets, so that a fold, or a line, would go on there.
func rooms() [][]byte {
	return [][]byte{[]byte(" ab\x00"), []byte("\r\n ab"), []byte("\n cd"), []byte("bcde")}
}

// roomy is a list with such a room behind its end.
func roomy(s, room []byte) []byte { return slices.Concat(s, room)[:len(s)] }

// untouched tells whether such a list and its room are as they were.
func untouched(s, as, room []byte) bool {
	return slices.Equal(s[:len(s)+len(room)], slices.Concat(as, room))
}

// writeOver fills a list to its capacity, so that memory that is shared shows.
func writeOver(s []byte, with byte) {
	s = s[:cap(s)]
	for i := range s {
		s[i] = with
	}
}

// answers are those calls that answer octets.
func answers() map[string]func(s []byte) []byte {
	return map[string]func(s []byte) []byte{
		"Unfold": Unfold,
		"Fold, of what fits": func(s []byte) []byte {
			out, _ := Fold(s, 1000, 1000)
			return out
		},
		"Fold": func(s []byte) []byte {
			out, _ := Fold(s, 3, 5)
			return out
		},
		"Again, of what fits": func(s []byte) []byte {
			out, _ := Again(s, 1000, 1000)
			return out
		},
		"Again": func(s []byte) []byte {
			out, _ := Again(s, 3, 5)
			return out
		},
	}
}

// told is what the calls answer of octets.
func told(s []byte) string {
	out := fmt.Sprintf("%q %d %t", Unfold(s), Folds(s), Right(s))
	for _, x := range [][2]int{{0, 0}, {0, 1}, {2, 4}, {5, 6}, {1000, 1000}} {
		folded, err := Fold(s, x[0], x[1])
		again, errAgain := Again(s, x[0], x[1])
		out += fmt.Sprintf(" %q %d %q %d", folded, err, again, errAgain)
	}
	return out
}

// R5: nil and empty lists.
func TestNilAndEmpty(t *testing.T) {
	for _, s := range [][]byte{nil, {}, make([]byte, 0, 8)} {
		want := `"" 0 true "" 1 "" 1` + strings.Repeat(` "" 0 "" 0`, 4)
		if got := told(s); got != want {
			t.Errorf("of no octets is told %s", got)
		}
	}
}

// R3: the same again, whatever capacity a list has, and whatever stands behind its end.
func TestSameAnswersAgain(t *testing.T) {
	for _, s := range samples() {
		want := told(slices.Clip(s))
		for _, room := range rooms() {
			if got := told(roomy(s, room)); got != want {
				t.Errorf("of %q is told %s, and then %s", s, want, got)
			}
		}
	}
}

// R4: lists are left as they are, and answers share nothing.

func TestListsAreLeft(t *testing.T) {
	for _, as := range samples() {
		for _, room := range rooms() {
			s := roomy(as, room)
			told(s)
			if !untouched(s, as, room) {
				t.Errorf("%q was written into: %q", as, s[:cap(s)])
			}
		}
	}
}

func TestAnswersShareNothing(t *testing.T) {
	for name, call := range answers() {
		for _, as := range samples() {
			for _, room := range rooms() {
				s := roomy(as, room)
				first := call(s)
				want := string(first)
				writeOver(first, 'X')
				if !untouched(s, as, room) {
					t.Errorf("%s of %q answers what it was handed", name, as)
				}
				second := call(s)
				writeOver(s, 'Y')
				if string(second) != want {
					t.Errorf("%s of %q = %q after a write, %q ahead", name, as, second, want)
				}
			}
		}
	}
}
