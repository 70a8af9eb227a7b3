package ewform

import (
	"fmt"
	"io"
	"slices"
	"strings"
	"testing"

	"sheave/codec"
)

// readerOf reads a charset that the library knows not, for the library.
func readerOf(t *testing.T, name string, charset int) func(string, io.Reader) (io.Reader, error) {
	return func(asked string, from io.Reader) (io.Reader, error) {
		if asked != name {
			t.Errorf("the library finds the charset %q, not %q", asked, name)
		}
		s, err := io.ReadAll(from)
		return strings.NewReader(string(codec.Read(charset, s))), err
	}
}

// samples are octets of all kinds.
func samples() [][]byte {
	list := [][]byte{nil, allOctets(), someOf(allOctets(), 40), []byte(texts)}
	for _, s := range []string{"a", "=?", "=?=", "=?utf-8?Q?=C3=A9?=", "=?utf-8?Q?=C3=A9", "=?utf-8?Q?=C3=A9?", "=?utf-8?B?w6k=?=", "=?x?b?Zg?=", "=?l1*en?q?a_b?=", "=?x?Q?a b?=", "=?x?Q??=", "\x80", "\xC3\xA9", strings.Repeat("a", 60), "=?x?Q?" + strings.Repeat("a", 67) + "?=", "=?x?Q?" + strings.Repeat("a", 68) + "?="} {
		list = append(list, []byte(s))
	}
	return list
}

// rooms stand behind octets, so that an encoded-word would end, or go on there.
func rooms() [][]byte {
	return [][]byte{[]byte("?="), []byte("="), []byte("a?="), []byte("\xA9"), []byte(" =?x?Q?a?=")}
}

// roomy is a list with such a room behind its end.
func roomy(s, room []byte) []byte { return slices.Concat(s, room)[:len(s)] }

// untouched tells whether such a list and its room are as they were.
func untouched(s, as, room []byte) bool {
	return slices.Equal(s[:len(s)+len(room)], slices.Concat(as, room))
}

// writeOver fills a list to its capacity, so that memory that is shared shows.
func writeOver[E any](s []E, with E) {
	s = s[:cap(s)]
	for i := range s {
		s[i] = with
	}
}

// toldAndLaid is what all calls answer of octets.
func toldAndLaid(s []byte) string {
	out := fmt.Sprintf("%+v", told(s))
	for charset := range 7 {
		for code := range 4 {
			laid, err := Lay(charset, code, s)
			out += fmt.Sprintf(" %q %d", laid, err)
		}
	}
	return out
}

// lists are those that the calls answer of octets, each as text.
func lists(s []byte) (name, text, laidB, laidQ []byte, signs []rune) {
	word, _ := Parse(s)
	signs, _ = Read(s)
	laidB, _ = Lay(5, B, s)
	laidQ, _ = Lay(5, Q, s)
	return word.Name, word.Text, laidB, laidQ, signs
}

// R5: nil and empty lists.
func TestNilAndEmpty(t *testing.T) {
	for _, s := range [][]byte{nil, {}, make([]byte, 0, 8)} {
		if got, want := told(s), (answers{err: 3}); got != want {
			t.Errorf("of no octets is told %+v", got)
		}
		for charset := range 7 {
			for code := range 4 {
				want := 3
				if charset < 1 || charset > 5 {
					want = 10
				}
				if got, err := Lay(charset, code, s); got != nil || int(err) != want {
					t.Errorf("Lay(%d, %d) of no octets = %q, %d", charset, code, got, err)
				}
			}
		}
	}
}

// R3: the same again, whatever capacity a list has, and whatever stands behind its end.
func TestSameAnswersAgain(t *testing.T) {
	for _, s := range samples() {
		want := toldAndLaid(slices.Clip(s))
		for _, room := range rooms() {
			if got := toldAndLaid(roomy(s, room)); got != want {
				t.Errorf("of %q is told %s, and then %s", s, want, got)
			}
		}
	}
}

// R4: lists are left as they are, and answers share nothing.

func TestListsAreLeft(t *testing.T) {
	for _, as := range samples() {
		for _, room := range rooms() {
			s := roomy(as, room)
			toldAndLaid(s)
			if !untouched(s, as, room) {
				t.Errorf("%q was written into: %q", as, s[:cap(s)])
			}
		}
	}
}

func TestAnswersShareNothing(t *testing.T) {
	for _, as := range samples() {
		want := toldAndLaid(as)
		for _, room := range rooms() {
			s := roomy(as, room)
			name, text, laidB, laidQ, signs := lists(s)
			before := fmt.Sprintf("%q %q %q %q %X", name, text, laidB, laidQ, signs)
			// Writes into what was handed in turn no answer.
			writeOver(s, 'Y')
			if got := fmt.Sprintf("%q %q %q %q %X", name, text, laidB, laidQ, signs); got != before {
				t.Errorf("of %q is answered %s, and after a write %s", as, before, got)
			}
			// Writes into an answer turn neither what was handed in nor another answer.
			s = roomy(as, room)
			name, text, laidB, laidQ, signs = lists(s)
			before = fmt.Sprintf("%q %q %X", text, laidQ, signs)
			writeOver(name, 'X')
			writeOver(laidB, 'X')
			if got := fmt.Sprintf("%q %q %X", text, laidQ, signs); got != before {
				t.Errorf("of %q is answered %s, and after a write into others %s", as, before, got)
			}
			writeOver(text, 'X')
			writeOver(laidQ, 'X')
			writeOver(signs, 'X')
			if !untouched(s, as, room) || toldAndLaid(s) != want {
				t.Errorf("writes into answers of %q turn it, or later ones", as)
			}
		}
	}
}

// Parts of one answer share nothing either way.
func TestPartsShareNothing(t *testing.T) {
	s := []byte("=?utf-8?Q?abc?=")
	one, _ := Parse(s)
	writeOver(one.Text, 'X')
	if string(one.Name) != "utf-8" {
		t.Errorf("a write into a text turns the name to %q", one.Name)
	}
	other, _ := Parse(s)
	writeOver(other.Name, 'X')
	if string(other.Text) != "abc" {
		t.Errorf("a write into a name turns the text to %q", other.Text)
	}
	one.Name = append(one.Name, "zzzzzzzzzz"...)
	if string(s) != "=?utf-8?Q?abc?=" {
		t.Errorf("an octet more of a name turns what was handed in to %q", s)
	}
}
