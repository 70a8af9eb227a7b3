package atom

import (
	"fmt"
	"slices"
	"strings"
	"testing"
)

// samples are octets of all kinds.
func samples() [][]byte {
	list := [][]byte{nil, allOctets(), someOf(octetEdges, 300), []byte(tokens), someOf([]byte(`()\ a`), 300)}
	for _, s := range []string{"a", " ", "(", ")", `\`, `"`, `""`, "()", "(a", `(a\`, " (a (b)) c", "text/plain", `"a b" c`, `"a\"`, `"a`, `"a\"b"`, "a=b", ";", "\x00", "\x80", "\r\n", strings.Repeat("ab", 100), strings.Repeat("(", 100)} {
		list = append(list, []byte(s))
	}
	return list
}

// rooms stand behind octets, so that a gap, a token, or a quoted text would go on there.
func rooms() [][]byte {
	return [][]byte{[]byte("abc"), []byte(" ) a"), []byte(`b"c`), []byte("(;=")}
}

// roomy is a list with such a room behind its end.
func roomy(s, room []byte) []byte { return slices.Concat(s, room)[:len(s)] }

// untouched tells whether such a list and its room are as they were.
func untouched(s, as, room []byte) bool {
	return slices.Equal(s[:len(s)+len(room)], slices.Concat(as, room))
}

// writeOver fills a list to its capacity, so that memory that is shared shows.
func writeOver(s []byte, with byte) {
	s = s[:cap(s)]
	for i := range s {
		s[i] = with
	}
}

// answers are those calls that answer octets.
func answers() map[string]func(s []byte) []byte {
	token := func(at int) func(s []byte) []byte {
		return func(s []byte) []byte {
			out, _, _ := Token(s, at)
			return out
		}
	}
	value := func(at int) func(s []byte) []byte {
		return func(s []byte) []byte {
			out, _, _ := Value(s, at)
			return out
		}
	}
	return map[string]func(s []byte) []byte{
		"Token": token(0), "Token, from 1 on": token(1), "Value": value(0), "Value, from 1 on": value(1), "Lay": Lay,
	}
}

// told is what the calls answer of octets.
func told(s []byte) string {
	out := fmt.Sprintf("%t %d %q", Plain(s), Depth(s), Lay(s))
	for _, at := range []int{-1, 0, 1, len(s) - 1, len(s), len(s) + 1} {
		token, tokenTo, tokenErr := Token(s, at)
		value, valueTo, valueErr := Value(s, at)
		skipped, ok := Skip(s, at, '=')
		out += fmt.Sprintf(" %d %q %d %d %q %d %d %d %t", Gap(s, at), token, tokenTo, tokenErr, value, valueTo, valueErr, skipped, ok)
	}
	return out
}

// R5: nil and empty lists.
func TestNilAndEmpty(t *testing.T) {
	for _, s := range [][]byte{nil, {}, make([]byte, 0, 8)} {
		want := `false 0 "\"\""` + strings.Repeat(` 0 "" 0 4 "" 0 4 0 false`, 6)
		if got := told(s); got != want {
			t.Errorf("of no octets is told %s, want %s", got, want)
		}
	}
}

// R3: the same again, whatever capacity a list has, and whatever stands behind its end.
func TestSameAnswersAgain(t *testing.T) {
	for _, s := range samples() {
		want := told(slices.Clip(s))
		for _, room := range rooms() {
			if got := told(roomy(s, room)); got != want {
				t.Errorf("of %q is told %s, and then %s", s, want, got)
			}
		}
	}
}

// R4: lists are left as they are, and answers share nothing.

func TestListsAreLeft(t *testing.T) {
	for _, as := range samples() {
		for _, room := range rooms() {
			s := roomy(as, room)
			told(s)
			if !untouched(s, as, room) {
				t.Errorf("%q was written into: %q", as, s[:cap(s)])
			}
		}
	}
}

func TestAnswersShareNothing(t *testing.T) {
	for name, call := range answers() {
		for _, as := range samples() {
			for _, room := range rooms() {
				s := roomy(as, room)
				first := call(s)
				want := string(first)
				writeOver(first, 'X')
				if !untouched(s, as, room) {
					t.Errorf("%s of %q answers what it was handed", name, as)
				}
				second := call(s)
				writeOver(s, 'Y')
				if string(second) != want {
					t.Errorf("%s of %q = %q after a write, %q ahead", name, as, second, want)
				}
			}
		}
	}
}
