package ewcost

import (
	"fmt"
	"slices"
	"testing"

	"sheave/api"
)

// samples are texts of all kinds.
func samples() [][]rune {
	return [][]rune{nil, []rune("a"), []rune("abc"), []rune("a b=?"), {0xE9}, {'a', 0x20AC}, {0x1F600, 0xE9}, {0xD800}, {'a', -1}, row('a', 59), row('a', 60), row('a', 61), row(0xE9, 100), someOf(kinds(), 40)}
}

// rooms stand behind texts, so that signs would be added, or spoil there.
func rooms() [][]rune { return [][]rune{{'a'}, {0xE9, 'a'}, {0x1F600}, {-1}, row('=', 70)} }

// roomy is a list with such a room behind its end.
func roomy(s, room []rune) []rune { return slices.Concat(s, room)[:len(s)] }

// untouched tells whether such a list and its room are as they were.
func untouched(s, as, room []rune) bool {
	return slices.Equal(s[:len(s)+len(room)], slices.Concat(as, room))
}

// told is what all calls answer of a text.
func told(signs []rune) string {
	out := ""
	for charset := range 7 {
		better, err := Better(charset, signs)
		out += fmt.Sprintf("\n%d: %d %d %d", charset, better, err, Saved(charset, signs))
		for code := range 4 {
			all, err := Len(charset, code, signs)
			out += fmt.Sprintf(", %d %d %d", all, err, Text(charset, code, signs))
			for _, room := range []int{-1, 0, 15, 20, 24, 60, 75, 76, 1000} {
				out += fmt.Sprintf(" %t %d", Fits(charset, code, signs, room), Prefix(charset, code, signs, room))
			}
		}
	}
	return out
}

// R3: the same again, whatever capacity a list has, and whatever stands behind its end.
func TestSameAnswersAgain(t *testing.T) {
	for _, s := range samples() {
		want := told(slices.Clip(s))
		for _, room := range rooms() {
			if got := told(roomy(s, room)); got != want {
				t.Errorf("of %X is told %s, and then %s", s, want, got)
			}
		}
	}
}

// R4: lists are left as they are.
func TestListsAreLeft(t *testing.T) {
	for _, as := range samples() {
		for _, room := range rooms() {
			s := roomy(as, room)
			told(s)
			if !untouched(s, as, room) {
				t.Errorf("%X was written into: %X", as, s[:cap(s)])
			}
		}
	}
}

// R5: nil and empty lists.
func TestNilAndEmpty(t *testing.T) {
	want := told(nil)
	for _, signs := range [][]rune{{}, make([]rune, 0, 8), row('a', 3)[:0]} {
		if got := told(signs); got != want {
			t.Errorf("of no signs is told %s, and of nil %s", got, want)
		}
	}
	for _, charset := range charsets {
		for _, code := range codes {
			over := len("=??Q??=") + len(namesOf()[charset])
			if all, err := Len(charset, code, nil); all != over || err != api.OK {
				t.Errorf("Len(%d, %d, nil) = %d, %d, want %d", charset, code, all, err, over)
			}
			if Fits(charset, code, nil, 75) || Prefix(charset, code, nil, 75) != 0 || Text(charset, code, nil) != 0 {
				t.Errorf("no signs fit by %d in %d", code, charset)
			}
		}
	}
}
