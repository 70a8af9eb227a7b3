package hdr

import (
	"slices"
	"strings"
	"testing"

	"sheave/api"
)

// sampleTexts are texts of all kinds.
func sampleTexts() [][]rune {
	return [][]rune{nil, []rune("Hello"), []rune("a b"), row("ab ", 60), row("a", 100), {0xE9}, []rune("=?"), row("\U0001F600a", 60), {'a', 10}, {0xD800}}
}

// sampleOctets are octets of all kinds.
func sampleOctets() [][]byte {
	list := [][]byte{nil, allOctets(), someOf(allOctets(), 300)}
	for _, s := range []string{"a", "a\r\n b", "\xC3\xA9 \xE2\x82", "=?x?Q?b?=", "a =?utf-8?Q?b?=\r\n =?utf-8?Q?c?=", "a\r\nb", strings.Repeat("a", 67), strings.Repeat("ab ", 60), "=?"} {
		list = append(list, []byte(s))
	}
	return list
}

// textRooms and octetRooms stand behind lists, so that what is told would be another thing with them.
func textRooms() [][]rune { return [][]rune{[]rune("? "), {0xE9}, {-1, 10}, row("a", 80)} }

func octetRooms() [][]byte {
	return [][]byte{[]byte("aaaa"), []byte("\n "), []byte("\r\n =?x?Q?b?="), []byte("?="), []byte("\xA9\x82\xAC")}
}

// roomy is a list with such a room behind its end.
func roomy[E any](s, room []E) []E { return slices.Concat(s, room)[:len(s)] }

// untouched tells whether such a list and its room are as they were.
func untouched[E comparable](s, as, room []E) bool {
	return slices.Equal(s[:len(s)+len(room)], slices.Concat(as, room))
}

// writeOver fills a list to its capacity, so that memory that is shared shows.
func writeOver[E any](s []E, with E) {
	s = s[:cap(s)]
	for i := range s {
		s[i] = with
	}
}

// textTold is what is told of a text, and octetsTold what of octets.
type textTold struct {
	s           string
	err         api.Errno
	plain, bare bool
}

type octetsTold struct {
	text, s string
	err     api.Errno
	right   bool
}

func ofText(t []rune) textTold {
	s, err := Lay(7, t)
	return textTold{string(s), err, Plain(t), Bare(7, t)}
}

func ofOctets(s []byte) octetsTold {
	again, err := Again(7, s)
	return octetsTold{string(Read(s)), string(again), err, Right(7, s)}
}

// R3 and R4: the same again, whatever stands behind a list's end; and lists are left as they are.

func TestTextsAreLeft(t *testing.T) {
	for _, as := range sampleTexts() {
		want := ofText(slices.Clip(as))
		for _, room := range textRooms() {
			text := roomy(as, room)
			if got := ofText(text); got != want || ofText(text) != want {
				t.Errorf("of %+q is told %+v, and then %+v", as, want, got)
			}
			if !untouched(text, as, room) {
				t.Errorf("%+q was written into: %+q", as, text[:cap(text)])
			}
		}
	}
}

func TestOctetsAreLeft(t *testing.T) {
	for _, as := range sampleOctets() {
		want := ofOctets(slices.Clip(as))
		for _, room := range octetRooms() {
			s := roomy(as, room)
			if got := ofOctets(s); got != want || ofOctets(s) != want {
				t.Errorf("of %q is told %+v, and then %+v", as, want, got)
			}
			if !untouched(s, as, room) {
				t.Errorf("%q was written into: %q", as, s[:cap(s)])
			}
		}
	}
}

// R4: answers share nothing with what was handed in, and nothing with each other.

func TestLaidSharesNothing(t *testing.T) {
	for _, as := range sampleTexts() {
		want := ofText(as)
		for _, room := range textRooms() {
			text := roomy(as, room)
			s, _ := Lay(7, text)
			other, _ := Lay(7, text)
			writeOver(s, 'X')
			if string(other) != want.s || !untouched(text, as, room) || ofText(as) != want {
				t.Errorf("a write into what %+q is laid as turns another thing", as)
			}
			writeOver(text, 'Y')
			if string(other) != want.s {
				t.Errorf("a write into %+q turns what it is laid as", as)
			}
		}
	}
}

func TestReadSharesNothing(t *testing.T) {
	for _, as := range sampleOctets() {
		want := ofOctets(as)
		for _, room := range octetRooms() {
			s := roomy(as, room)
			text, other := Read(s), Read(s)
			again, _ := Again(7, s)
			otherAgain, _ := Again(7, s)
			writeOver(text, 'X')
			writeOver(again, 'X')
			if string(other) != want.text || string(otherAgain) != want.s || !untouched(s, as, room) || ofOctets(as) != want {
				t.Errorf("a write into what is told of %q turns another thing", as)
			}
			writeOver(s, 'Y')
			if string(other) != want.text || string(otherAgain) != want.s {
				t.Errorf("a write into %q turns what is told of it", as)
			}
		}
	}
}

// R5: nil and empty lists.
func TestNilAndEmpty(t *testing.T) {
	for _, text := range [][]rune{nil, {}, make([]rune, 0, 8), []rune("=?")[:0]} {
		for _, n := range lengths {
			if s, err := Lay(n, text); len(s) != 0 || err != api.OK || !Bare(n, text) || !Plain(text) {
				t.Errorf("%d, no text is laid as %q, %d", n, s, err)
			}
		}
		if _, err := Lay(0, text); err != api.ErrArg || Bare(0, text) {
			t.Errorf("no text is laid by no length: %d", err)
		}
	}
	for _, octets := range [][]byte{nil, {}, make([]byte, 0, 8), []byte("\n")[:0]} {
		for _, n := range lengths {
			if s, err := Again(n, octets); len(s) != 0 || err != api.OK || !Right(n, octets) || len(Read(octets)) != 0 {
				t.Errorf("%d, no octets are laid as %q, %d", n, s, err)
			}
		}
		if _, err := Again(41, octets); err != api.ErrArg || Right(41, octets) {
			t.Errorf("no octets are laid by no length: %d", err)
		}
	}
}
