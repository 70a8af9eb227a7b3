package ewread

import (
	"fmt"
	"slices"
	"strings"
	"testing"
)

// samples are octets of all kinds.
func samples() [][]byte {
	list := [][]byte{nil, allOctets(), someOf(allOctets(), 300), someOf([]byte("\r\n a"), 300)}
	for _, s := range []string{"a", " ", "\r\n", "a\r\n b", "\xC3\xA9 \xE2\x82", "=?x?Q?b?=", "a =?utf-8?Q?b?= =?utf-8?Q?c?=", "=?x?Q?b?=\r\n =?utf-8?B?w6k=?= d ", "=?utf-8?Q?" + strings.Repeat("b", 64) + "?= ", strings.Repeat("=?x?b?cDE?= a ", 30), "=?utf-8?B?=?= =?utf-8?Q?abc?="} {
		list = append(list, []byte(s))
	}
	return list
}

// rooms stand behind octets, so that a piece would go on there, or another one begin.
func rooms() [][]byte {
	return [][]byte{[]byte(" b"), []byte("bc"), []byte("\n "), []byte("\r\n =?x?Q?b?="), []byte("?="), []byte("\xA9\x82\xAC")}
}

// roomy is a list with such a room behind its end.
func roomy(s, room []byte) []byte { return slices.Concat(s, room)[:len(s)] }

// untouched tells whether such a list and its room are as they were.
func untouched(s, as, room []byte) bool {
	return slices.Equal(s[:len(s)+len(room)], slices.Concat(as, room))
}

// writeOver fills a list to its capacity, so that memory that is shared shows.
func writeOver[E any](s []E, with E) {
	s = s[:cap(s)]
	for i := range s {
		s[i] = with
	}
}

// R3: the same again, whatever capacity a list has, and whatever stands behind its end.
func TestSameAnswersAgain(t *testing.T) {
	for _, s := range samples() {
		want := told(slices.Clip(s))
		for _, room := range rooms() {
			if got := told(roomy(s, room)); !same(got, want) {
				t.Errorf("of %q is told %s, and then %s", s, asText(want), asText(got))
			}
		}
	}
}

// R4: lists are left as they are, and answers share nothing.

func TestListsAreLeft(t *testing.T) {
	for _, as := range samples() {
		for _, room := range rooms() {
			s := roomy(as, room)
			told(s)
			if !untouched(s, as, room) {
				t.Errorf("%q was written into: %q", as, s[:cap(s)])
			}
		}
	}
}

func TestAnswersShareNothing(t *testing.T) {
	for _, as := range samples() {
		want := asText(told(as))
		for _, room := range rooms() {
			// A write into what was handed in turns no answer.
			s := roomy(as, room)
			a := told(s)
			writeOver(s, 'Y')
			if got := asText(a); got != want {
				t.Errorf("of %q is told %s, and after a write %s", as, want, got)
			}
			// A write into one answer turns neither another one, nor what was handed in, nor a later one.
			s = roomy(as, room)
			a = told(s)
			checkLines(t, a.lines)
			writeOver(a.lines, nil)
			writeOver(a.read, 'X')
			writeOver(a.charsets, 9)
			if !slices.Equal(a.raw, Raw(as)) {
				t.Errorf("writes into answers of %q turn another one", as)
			}
			writeOver(a.raw, 'X')
			if got := asText(told(s)); !untouched(s, as, room) || got != want {
				t.Errorf("writes into answers of %q turn it, or later ones", as)
			}
		}
	}
}

// checkLines writes over each list of an answer, and holds the others against what they were.
func checkLines(t *testing.T, lines [][]rune) {
	t.Helper()
	for i := range lines {
		before := linesAsText(lines, i)
		writeOver(lines[i], 'X')
		if after := linesAsText(lines, i); before != after {
			t.Fatalf("a write into the line %d turns another one", i)
		}
	}
}

// linesAsText are lists but one as one text.
func linesAsText(lines [][]rune, but int) string {
	return fmt.Sprint(lines[:but], lines[but+1:])
}

// R5: nil and empty lists.
func TestNilAndEmpty(t *testing.T) {
	for _, s := range [][]byte{nil, {}, make([]byte, 0, 8), []byte("a b")[:0], []byte("=?x?Q?b?=")[:0]} {
		a := told(s)
		if len(a.read) != 0 || len(a.raw) != 0 || a.odd != 0 || len(a.charsets) != 0 || len(a.lines) != 0 {
			t.Errorf("of no octets is told %s", asText(a))
		}
	}
}
