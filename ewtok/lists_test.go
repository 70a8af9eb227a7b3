package ewtok

import (
	"fmt"
	"slices"
	"strings"
	"testing"
)

// samples are octets of all kinds.
func samples() [][]byte {
	list := [][]byte{nil, allOctets(), someOf(allOctets(), 300), someOf([]byte("\r\n a"), 300)}
	for _, s := range []string{"a", " ", "\r\n", "a b", " a ", "=?x?Q?b?=", "a =?utf-8?Q?b?= =?utf-8?Q?c?=", "=?x?Q?b?=\r\n =?x?Q?c?= d ", "=?utf-8?Q?" + strings.Repeat("b", 64) + "?= ", strings.Repeat("=?x?b?c?= ", 30)} {
		list = append(list, []byte(s))
	}
	return list
}

// rooms stand behind octets, so that a piece would go on there, or another one begin.
func rooms() [][]byte {
	return [][]byte{[]byte(" b"), []byte("bc"), []byte("\r\n =?x?Q?b?="), []byte("?=")}
}

// roomy is a list with such a room behind its end.
func roomy[E any](s, room []E) []E { return slices.Concat(s, room)[:len(s)] }

// untouched tells whether such a list and its room are as they were.
func untouched(s, as, room []byte) bool {
	return slices.Equal(s[:len(s)+len(room)], slices.Concat(as, room))
}

// writeOver fills a list to its capacity, so that memory that is shared shows.
func writeOver[E any](s []E, with E) {
	s = s[:cap(s)]
	for i := range s {
		s[i] = with
	}
}

// answers are what the calls tell of octets.
func answers(s []byte) string {
	pieces := Pieces(s)
	return fmt.Sprintf("%d %v %t %v %q %d", Kind(s), toldOf(pieces), Hidden(pieces), toldOf(Shown(s)), Join(pieces), Words(s))
}

// clonesOf are pieces with texts of their own.
func clonesOf(l []Piece) []Piece {
	var out []Piece
	for _, piece := range l {
		out = append(out, Piece{piece.Kind, slices.Clone(piece.Text)})
	}
	return out
}

// R3: the same again, whatever capacity a list has, and whatever stands behind its end.

func TestSameAnswersAgain(t *testing.T) {
	for _, s := range samples() {
		want := answers(slices.Clip(s))
		for _, room := range rooms() {
			if got := answers(roomy(s, room)); got != want {
				t.Errorf("of %q is told %s, and then %s", s, want, got)
			}
		}
	}
}

// Of a list of pieces none is asked that stands behind its end.
func TestSameOfPieces(t *testing.T) {
	word, gap := Piece{Word, []byte("=?x?Q?b?=")}, Piece{Gap, []byte(" ")}
	for _, l := range [][]Piece{{}, {word}, {gap}, {word, gap}, {word, gap, word}, {word, gap, word, gap}} {
		hidden, joined := Hidden(slices.Clip(l)), Join(slices.Clip(l))
		for _, room := range [][]Piece{{word}, {gap, word}, {gap, gap, gap}} {
			as := roomy(l, room)
			if got := Hidden(as); !slices.Equal(got, hidden) {
				t.Errorf("of %v are hidden %t, and then %t", toldOf(l), hidden, got)
			}
			if got := Join(as); string(got) != string(joined) {
				t.Errorf("%v are joined to %q, and then to %q", toldOf(l), joined, got)
			}
		}
	}
}

// R4: lists are left as they are, and answers share nothing.

func TestListsAreLeft(t *testing.T) {
	for _, as := range samples() {
		for _, room := range rooms() {
			s := roomy(as, room)
			answers(s)
			if !untouched(s, as, room) {
				t.Errorf("%q was written into: %q", as, s[:cap(s)])
			}
		}
	}
}

func TestPiecesAreLeft(t *testing.T) {
	for _, as := range samples() {
		for _, room := range rooms() {
			one, other, behind := roomy(as, room), roomy(as, room), []byte("behind")
			l := []Piece{{Word, one}, {Gap, other}, {Word, behind}}
			hidden, joined := Hidden(l), Join(l[:2])
			want := string(joined)
			writeOver(joined, 'X')
			writeOver(hidden, true)
			if !untouched(l[0].Text, as, room) || !untouched(l[1].Text, as, room) || string(l[2].Text) != "behind" || l[0].Kind != Word || l[1].Kind != Gap || l[2].Kind != Word {
				t.Errorf("pieces of %q were written into: %v", as, toldOf(l))
			}
			// A single piece's text is no answer either.
			alone := Join(l[:1])
			again := Join(l[:2])
			writeOver(one, 'Y')
			if string(again) != want || string(alone) != string(as) {
				t.Errorf("Join of %q answers %q and %q, after a write", as, alone, again)
			}
		}
	}
}

func TestAnswersShareNothing(t *testing.T) {
	for _, as := range samples() {
		want := answers(as)
		for _, room := range rooms() {
			for _, call := range []func([]byte) []Piece{Pieces, Shown} {
				s := roomy(as, room)
				pieces := call(s)
				before := clonesOf(pieces)
				// A write into what was handed in turns no answer.
				writeOver(s, 'Y')
				if !slices.Equal(toldOf(pieces), toldOf(before)) {
					t.Errorf("of %q is answered %v, and after a write %v", as, toldOf(before), toldOf(pieces))
				}
				// A write into one piece turns neither another one, nor what was handed in, nor a later answer.
				s = roomy(as, room)
				pieces = call(s)
				checkParts(t, pieces)
				writeOver(pieces, Piece{})
				if !untouched(s, as, room) || answers(s) != want {
					t.Errorf("writes into answers of %q turn it, or later ones", as)
				}
			}
		}
	}
}

// checkParts writes over each text of an answer, and holds the others against what they were.
func checkParts(t *testing.T, pieces []Piece) {
	t.Helper()
	for i := range pieces {
		before := toldOf(pieces)
		writeOver(pieces[i].Text, 'X')
		after := toldOf(pieces)
		if !slices.Equal(slices.Delete(before, i, i+1), slices.Delete(after, i, i+1)) {
			t.Fatalf("a write into the piece %d turns another one", i)
		}
	}
}

// R5: nil and empty lists.
func TestNilAndEmpty(t *testing.T) {
	for _, s := range [][]byte{nil, {}, make([]byte, 0, 8), []byte("a b")[:0]} {
		if got, want := answers(s), `2 [] [] [] "" 0`; got != want {
			t.Errorf("of no octets is told %s", got)
		}
	}
	for _, l := range [][]Piece{nil, {}, make([]Piece, 0, 8)} {
		if hidden, joined := Hidden(l), Join(l); len(hidden) != 0 || len(joined) != 0 {
			t.Errorf("of no pieces is told %t, %q", hidden, joined)
		}
	}
	for _, text := range [][]byte{nil, {}} {
		l := []Piece{{Word, []byte("a")}, {Gap, text}, {Word, text}}
		if hidden, joined := Hidden(l), Join(l); !slices.Equal(hidden, []bool{false, true, false}) || string(joined) != "a" {
			t.Errorf("of pieces without octets is told %t, %q", hidden, joined)
		}
	}
}
