package mcheck

import (
	"slices"
	"testing"
)

// samples are names of all kinds.
func samples() [][]byte {
	list := [][]byte{nil, allOctets(), someOf(octetEdges, 300), someOf([]byte(alphabet), 300)}
	for _, s := range []string{"a", "&", "&-", "&A", "&AOk", "&AOk-", "&AOk-a&AOk-", "&AOk-&AOk-", "&2D0-", "&2D3eAA--", "&AGE-", "&AOl-", "\x80", "a\xFF&", "~&U,A-&-"} {
		list = append(list, []byte(s))
	}
	return list
}

// rooms stand behind names, so that a run would go on there, or be closed, or stand beside another one.
func rooms() [][]byte { return [][]byte{[]byte(",Ok-"), []byte("-,Ok"), []byte("&AOk-")} }

// roomy is a list with such a room behind its end.
func roomy(s, room []byte) []byte { return slices.Concat(s, room)[:len(s)] }

// untouched tells whether such a list and its room are as they were.
func untouched(s, as, room []byte) bool {
	return slices.Equal(s[:len(s)+len(room)], slices.Concat(as, room))
}

// writeOver fills a list to its capacity, so that memory that is shared shows.
func writeOver[E any](s []E, with E) {
	s = s[:cap(s)]
	for i := range s {
		s[i] = with
	}
}

// R5: nil and empty lists.
func TestNilAndEmpty(t *testing.T) {
	empty := [][]byte{nil, {}, make([]byte, 0, 8)}
	for _, s := range empty {
		if got, want := told(s), (answers{right: true}); got != want {
			t.Errorf("of no octets is told %v", got)
		}
		for _, other := range empty {
			if !Same(s, other) {
				t.Error("no octets are not the same as none")
			}
		}
		if Same(s, []byte("a")) || Same([]byte("a"), s) {
			t.Error("no octets are the same as one")
		}
	}
}

// R3: the same again, whatever capacity a list has, and whatever stands behind its end.
func TestSameAnswersAgain(t *testing.T) {
	for _, s := range samples() {
		want := told(slices.Clip(s))
		for _, room := range rooms() {
			name := roomy(s, room)
			if got := told(name); got != want {
				t.Errorf("of %q is told %v, and then %v", s, want, got)
			}
			if Same(name, s) != want.right || Same(s, name) != want.right || Same(name, name) != want.right {
				t.Errorf("%q is not the same with others behind its end", s)
			}
		}
	}
}

// R4: lists are left as they are, and answers share nothing.

func TestListsAreLeft(t *testing.T) {
	for _, as := range samples() {
		for _, room := range rooms() {
			a, b := roomy(as, room), roomy(as, room)
			told(a)
			Same(a, b)
			if !untouched(a, as, room) || !untouched(b, as, room) {
				t.Errorf("%q was written into: %q, %q", as, a[:cap(a)], b[:cap(b)])
			}
		}
	}
}

func TestAnswersShareNothing(t *testing.T) {
	for _, as := range samples() {
		for _, room := range rooms() {
			s := roomy(as, room)
			first, _ := Read(s)
			want := slices.Clone(first)
			writeOver(first, -1)
			if !untouched(s, as, room) {
				t.Errorf("Read(%q) answers what it was handed", as)
			}
			second, _ := Read(s)
			if !slices.Equal(second, want) {
				t.Errorf("Read(%q) = %X after a write, %X ahead", as, second, want)
			}
			writeOver(s, 'X')
			if !slices.Equal(second, want) {
				t.Errorf("Read(%q) keeps what it was handed", as)
			}
		}
	}
}
