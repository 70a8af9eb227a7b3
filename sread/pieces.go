package sread

import (
	"slices"
	"unicode"

	"sheave/api"
	"sheave/bcode"
	"sheave/units"
)

// What a run's digits stand between; they are signs of texts, too.
const (
	opening = '+'
	closing = '-'
)

// octets are what is read, piece by piece.
type octets []byte

// piece is what is read at once: a run, or one sign.
type piece struct {
	digits []byte // a run's, and none of what is no run
	sign   rune   // what is no run
	right  bool   // whether what is no run may stand there
}

// pieces yields each piece, from the first octet on.
func (s octets) pieces(yield func(piece) bool) {
	for len(s) > 0 {
		p, many := s.first()
		if !yield(p) {
			return
		}
		s = s[many:]
	}
}

// first is the first piece of octets that are some, and how many it has.
func (s octets) first() (piece, int) {
	switch {
	case s[0] == opening:
		return s.opened()
	case s[0] > unicode.MaxASCII:
		return piece{sign: api.Broken}, 1
	}
	return piece{sign: rune(s[0]), right: true}, 1
}

// opened is the piece that a `+` begins, and how many octets it has.
func (s octets) opened() (piece, int) {
	digits := leading(s[1:])
	many := 1 + len(digits)
	closed := many < len(s) && s[many] == closing
	if closed {
		many++
	}
	if len(digits) > 0 {
		return piece{digits: digits}, many
	}
	return piece{sign: opening, right: closed}, many
}

// leading are the digits ahead of the first octet that is none.
func leading(s []byte) []byte {
	many := slices.IndexFunc(s, isOther)
	if many < 0 {
		return s
	}
	return s[:many]
}

// isOther tells whether an octet is no digit.
func isOther(c byte) bool {
	_, ok := bcode.Value(c)
	return !ok
}

// isRun tells whether a piece is a run.
func (p piece) isRun() bool { return len(p.digits) > 0 }

// put puts behind a text, that is the call's own, what a piece is read as, and
// tells whether it is right.
func (p piece) put(t []rune) ([]rune, bool) {
	if !p.isRun() {
		return append(t, p.sign), p.right
	}
	u, whole := unitsOf(p.digits)
	t = append(t, units.Read(u)...)
	if !whole {
		// A sign of the text alone: what is left over is no unit, and so it has
		// none among the signs of the digits, that Run tells.
		return append(t, api.Broken), false
	}
	return t, units.Right(u)
}
