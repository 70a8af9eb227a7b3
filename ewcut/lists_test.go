package ewcut

import (
	"fmt"
	"io"
	"mime"
	"slices"
	"strings"
	"testing"

	"sheave/api"
	"sheave/codec"
)

// readerOf reads the charsets that the library knows not, for the library.
func readerOf(name string, from io.Reader) (io.Reader, error) {
	charset := map[string]int{"iso-8859-15": api.Latin9, "windows-1252": api.Win}[name]
	if charset == 0 {
		return nil, fmt.Errorf("the charset %q is none", name)
	}
	s, err := io.ReadAll(from)
	return strings.NewReader(string(codec.Read(charset, s))), err
}

// samples are texts of all kinds.
func samples() [][]rune {
	return [][]rune{nil, []rune("a"), []rune("abc"), []rune("a b=?"), {0xE9}, {'a', 0x20AC}, {'a', 0x201C}, {0x1F600, 0xE9}, {0xD800}, {'a', -1}, row('a', 60), row('a', 61), row('a', 200), row(0xE9, 100), row(0x20AC, 50), row(0x1F600, 30), someOf([]rune{'a', ' ', 0xE9, 0x20AC, 0x1F600}, 150), someOf(kinds(), 40)}
}

// rooms stand behind texts, so that signs would be added, or spoil there.
func rooms() [][]rune { return [][]rune{{'a'}, {0xE9, 'a'}, {0x1F600}, {-1}, row('=', 70)} }

// roomy is a list with such a room behind its end.
func roomy(s, room []rune) []rune { return slices.Concat(s, room)[:len(s)] }

// untouched tells whether such a list and its room are as they were.
func untouched(s, as, room []rune) bool {
	return slices.Equal(s[:len(s)+len(room)], slices.Concat(as, room))
}

// writeOver fills a list to its capacity, so that memory that is shared shows.
func writeOver[E any](s []E, with E) {
	s = s[:cap(s)]
	for i := range s {
		s[i] = with
	}
}

// told is what all calls answer of a text.
func told(signs []rune) string {
	charset, code, err := How(signs)
	out := fmt.Sprintf("%d %d %d", charset, code, err)
	for _, first := range []int{-1, 0, 16, 20, 24, 60, 75, 76, 1000} {
		words, err := Words(signs, first)
		out += fmt.Sprintf("\n%d: %q %d", first, words, err)
		folded, err := Fold(signs, first)
		out += fmt.Sprintf(" %q %d %d", folded, err, Count(signs, first))
		for charset := range 7 {
			for code := range 4 {
				cut, err := Cut(charset, code, signs, first)
				out += fmt.Sprintf(" %X %d", cut, err)
			}
		}
	}
	return out
}

// P31.4, by the library: it hides the gaps between words.
func TestLibraryReadsFolds(t *testing.T) {
	library := mime.WordDecoder{CharsetReader: readerOf}
	for _, signs := range samples() {
		for _, first := range []int{24, 40, 75} {
			folded, err := Fold(signs, first)
			if err != api.OK {
				continue
			}
			if got, err := library.DecodeHeader(string(folded)); err != nil || got != string(signs) {
				t.Errorf("%X is laid as %q, and the library reads %q, %v", signs, folded, got, err)
			}
		}
	}
}

// R1: with an error nothing else is told.
func TestErrorsTellNothingElse(t *testing.T) {
	for _, signs := range [][]rune{{0xD800}, {'a', -1}, row('a', 100), append(row('a', 100), 0x110000)} {
		words, err := Words(signs, 15)
		folded, foldErr := Fold(signs, 15)
		cut, cutErr := Cut(api.UTF8, codeQ, signs, 12)
		if words != nil || folded != nil || cut != nil || err == api.OK || foldErr != err || cutErr == api.OK || Count(signs, 15) != 0 {
			t.Errorf("of %X is told %q, %d, %q, %d, %X, %d", signs, words, err, folded, foldErr, cut, cutErr)
		}
	}
}

// R3: the same again, whatever capacity a list has, and whatever stands behind its end.
func TestSameAnswersAgain(t *testing.T) {
	for _, s := range samples() {
		want := told(slices.Clip(s))
		for _, room := range rooms() {
			if got := told(roomy(s, room)); got != want {
				t.Errorf("of %X is told %s, and then %s", s, want, got)
			}
		}
	}
}

// R4: lists are left as they are, and answers share nothing.

func TestListsAreLeft(t *testing.T) {
	for _, as := range samples() {
		for _, room := range rooms() {
			s := roomy(as, room)
			told(s)
			if !untouched(s, as, room) {
				t.Errorf("%X was written into: %X", as, s[:cap(s)])
			}
		}
	}
}

func TestAnswersShareNothing(t *testing.T) {
	for _, as := range samples() {
		want := told(as)
		for _, room := range rooms() {
			s := roomy(as, room)
			cut, _ := Cut(api.UTF8, codeQ, s, 40)
			words, _ := Words(s, 40)
			folded, _ := Fold(s, 40)
			before := fmt.Sprintf("%X %q %q", cut, words, folded)
			// Writes into what was handed in turn no answer.
			writeOver(s, 'Y')
			if got := fmt.Sprintf("%X %q %q", cut, words, folded); got != before {
				t.Errorf("of %X is answered %s, and after a write %s", as, before, got)
			}
			// Writes into an answer turn neither what was handed in nor a later answer.
			s = roomy(as, room)
			cut, _ = Cut(api.UTF8, codeQ, s, 40)
			words, _ = Words(s, 40)
			folded, _ = Fold(s, 40)
			checkParts(t, cut, 'X')
			checkParts(t, words, 'X')
			writeOver(folded, 'X')
			if !untouched(s, as, room) || told(s) != want {
				t.Errorf("writes into answers of %X turn it, or later ones", as)
			}
		}
	}
}

// checkParts writes over each list of an answer, and holds the others against what they were.
func checkParts[E comparable](t *testing.T, parts [][]E, with E) {
	t.Helper()
	for i := range parts {
		before := make([][]E, len(parts))
		for k, part := range parts {
			before[k] = slices.Clone(part)
		}
		writeOver(parts[i], with)
		for k, part := range parts {
			if k != i && !slices.Equal(part, before[k]) {
				t.Fatalf("a write into the part %d turns the part %d from %v to %v", i, k, before[k], part)
			}
		}
	}
}

// R5: nil and empty lists.
func TestNilAndEmpty(t *testing.T) {
	want := told(nil)
	for _, signs := range [][]rune{{}, make([]rune, 0, 8), row('a', 3)[:0]} {
		if got := told(signs); got != want {
			t.Errorf("of no signs is told %s, and of nil %s", got, want)
		}
	}
	for _, first := range someRooms {
		for _, charset := range charsets {
			for _, code := range codes {
				if cut, err := Cut(charset, code, nil, first); len(cut) != 0 || err != api.OK {
					t.Errorf("Cut(%d, %d, nil, %d) = %X, %d", charset, code, first, cut, err)
				}
			}
		}
		words, err := Words(nil, first)
		folded, foldErr := Fold(nil, first)
		if len(words) != 0 || err != api.OK || len(folded) != 0 || foldErr != api.OK || Count(nil, first) != 0 {
			t.Errorf("of no signs is told %q, %d, %q, %d", words, err, folded, foldErr)
		}
	}
}
