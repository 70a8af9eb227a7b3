package lines

import (
	"fmt"
	"slices"
	"strings"
	"testing"
)

// samples are octets of all kinds.
func samples() [][]byte {
	list := [][]byte{nil, allOctets(), someOf(octetEdges, 300), someOf([]byte("\r\na"), 300)}
	for _, s := range []string{"a", "\r", "\n", "\r\n", "\n\r", "\r\r\n", "\r\n\n", "a\r\n", "a\r", "a\r\nb", "a\r\n\r\nb\r\n", "a\nb\rc", "\x00", "\x80", "\r\n\r\n\r\n", strings.Repeat("abc\r\n", 40)} {
		list = append(list, []byte(s))
	}
	return list
}

// rooms stand behind octets, so that a line would go on there, or end.
func rooms() [][]byte { return [][]byte{[]byte("\nab\x00"), []byte("\r\nab"), []byte("bcde")} }

// roomy is a list with such a room behind its end.
func roomy(s, room []byte) []byte { return slices.Concat(s, room)[:len(s)] }

// untouched tells whether such a list and its room are as they were.
func untouched(s, as, room []byte) bool {
	return slices.Equal(s[:len(s)+len(room)], slices.Concat(as, room))
}

// writeOver fills a list to its capacity, so that memory that is shared shows.
func writeOver(s []byte, with byte) {
	s = s[:cap(s)]
	for i := range s {
		s[i] = with
	}
}

// told is what the calls answer of octets.
func told(s []byte) string {
	fit := fmt.Sprint(Fits(s, 0, 0), Fits(s, 0, 1), Fits(s, 1, 2), Fits(s, 1, 76), Fits(s, -1, 1))
	seven := fmt.Sprint(Seven(s, -1), Seven(s, 0), Seven(s, 1), Seven(s, 76))
	return fmt.Sprintf("%q %t %d %d %q %s %s", Split(s), Ends(s), Bare(s), Longest(s), Whole(s), fit, seven)
}

// R5: nil and empty lists.
func TestNilAndEmpty(t *testing.T) {
	for _, s := range [][]byte{nil, {}, make([]byte, 0, 8)} {
		if got, want := told(s), `[] true 0 0 "" true true true true false error 0 error 0 error 0 error 0`; got != want {
			t.Errorf("of no octets is told %s", got)
		}
		// A line without octets is a line.
		if got := Join([][]byte{s, s}); string(got) != "\r\n\r\n" {
			t.Errorf("two lines without octets are joined to %q", got)
		}
	}
	for _, l := range [][][]byte{nil, {}, make([][]byte, 0, 8)} {
		if got := Join(l); len(got) != 0 {
			t.Errorf("no lines are joined to %q", got)
		}
	}
}

// R3: the same again, whatever capacity a list has, and whatever stands behind its end.
func TestSameAnswersAgain(t *testing.T) {
	for _, s := range samples() {
		want := told(slices.Clip(s))
		for _, room := range rooms() {
			if got := told(roomy(s, room)); got != want {
				t.Errorf("of %q is told %s, and then %s", s, want, got)
			}
			l := [][]byte{roomy(s, room), roomy(s, room)}
			if got := Join(l[:1]); string(got) != string(s)+"\r\n" {
				t.Errorf("%q alone is joined to %q", s, got)
			}
		}
	}
}

// R4: lists are left as they are, and answers share nothing.

func TestListsAreLeft(t *testing.T) {
	for _, as := range samples() {
		for _, room := range rooms() {
			s := roomy(as, room)
			told(s)
			if !untouched(s, as, room) {
				t.Errorf("%q was written into: %q", as, s[:cap(s)])
			}
		}
	}
}

func TestLinesToJoinAreLeft(t *testing.T) {
	for _, as := range samples() {
		for _, room := range rooms() {
			first, second, behind := roomy(as, room), roomy(as, room), []byte("behind")
			l := [][]byte{first, second, behind}
			out := Join(l[:2])
			want := string(out)
			writeOver(out, 'X')
			if !untouched(l[0], as, room) || !untouched(l[1], as, room) || string(l[2]) != "behind" {
				t.Errorf("lines of %q were written into by Join, or are what it answers", as)
			}
			again := Join(l[:2])
			writeOver(first, 'Y')
			if string(again) != want {
				t.Errorf("Join of %q answers %q, and %q after a write", as, want, again)
			}
		}
	}
}

func TestWholeSharesNothing(t *testing.T) {
	for _, as := range samples() {
		for _, room := range rooms() {
			s := roomy(as, room)
			first := Whole(s)
			want := string(first)
			writeOver(first, 'X')
			if !untouched(s, as, room) {
				t.Errorf("Whole(%q) answers what it was handed", as)
			}
			second := Whole(s)
			writeOver(s, 'Y')
			if string(second) != want {
				t.Errorf("Whole(%q) = %q after a write, %q ahead", as, second, want)
			}
		}
	}
}

func TestSplitSharesNothing(t *testing.T) {
	for _, as := range samples() {
		for _, room := range rooms() {
			s := roomy(as, room)
			want := splitExpected(as)
			first := Split(s)
			// Each line has a memory of its own, if each keeps what only it was filled with.
			for i, line := range first {
				writeOver(line, byte(i))
			}
			for i, line := range first {
				if slices.ContainsFunc(line[:cap(line)], func(c byte) bool { return c != byte(i) }) {
					t.Fatalf("Split(%q) answers lines that share memory", as)
				}
			}
			if !untouched(s, as, room) {
				t.Errorf("Split(%q) answers what it was handed", as)
			}
			second := Split(s)
			writeOver(s, 'Y')
			if !slices.Equal(texts(second), want) {
				t.Errorf("Split(%q) = %q after a write, %q ahead", as, second, want)
			}
		}
	}
}
