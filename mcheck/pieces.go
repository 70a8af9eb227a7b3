package mcheck

import (
	"slices"

	"sheave/bmod"
	"sheave/mseven"
)

// What a run's digits stand between.
const (
	opening = '&'
	closing = '-'
)

// look goes from piece to piece, up to the first one that may not be: why it may
// not, where it begins, and how many are ahead of it.
func look(s []byte) (why, at, many int) {
	behindRun := false
	for at < len(s) {
		reason, octets, isRun := piece(s[at:])
		// Asked last, as it is the one reason that hangs on what stands ahead.
		if reason == Fine && isRun && behindRun {
			reason = Beside
		}
		if reason != Fine {
			return reason, at, many
		}
		at += octets
		many++
		behindRun = isRun
	}
	return Fine, at, many
}

// piece tells of octets that are some why their first piece may not be, whatever
// stands ahead, how many octets it has if it may, and whether it is a run.
func piece(s []byte) (why, octets int, isRun bool) {
	switch {
	case s[0] == opening:
		return opened(s)
	case mseven.Direct(rune(s[0])):
		return Fine, 1, false
	}
	return Octet, 0, false
}

// opened tells the same of octets that begin with an `&`.
func opened(s []byte) (why, octets int, isRun bool) {
	digits, behind := cutDigits(s[1:])
	isClosed := len(behind) > 0 && behind[0] == closing
	octets = len(s) - len(behind) + 1
	switch {
	case len(digits) == 0 && isClosed:
		return Fine, octets, false
	case len(digits) == 0:
		return Shift, 0, false
	case !isClosed:
		return Open, 0, false
	}
	return whyRun(digits), octets, true
}

// cutDigits parts the digits that octets begin with from what is behind them.
func cutDigits(s []byte) (digits, behind []byte) {
	many := slices.IndexFunc(s, isOther)
	if many < 0 {
		many = len(s)
	}
	return s[:many], s[many:]
}

// isOther tells whether an octet is no digit.
func isOther(c byte) bool {
	_, ok := bmod.Value(c)
	return !ok
}

// whyRun tells why a run of these digits may not be, wherever it stands.
func whyRun(digits []byte) int {
	signs, ok := mseven.Run(digits)
	switch {
	case !ok || len(signs) == 0:
		return Broken
	case slices.ContainsFunc(signs, needsNone):
		return Needless
	}
	return Fine
}

// needsNone tells whether a sign needs no run: an `&` has a way of its own.
func needsNone(c rune) bool { return mseven.Direct(c) || c == opening }
