package ewcost

import (
	"sheave/bcode"
	"sheave/ewform"
	"sheave/qword"
)

// tally is what a code has counted of a text so far.
type tally interface {
	// with is the tally with that many octets more.
	with(octets []byte) tally
}

// based counts octets, as Base64 codes three of them at once: how many digits
// there are shows at the end alone.
type based int

func (n based) with(octets []byte) tally { return n + based(len(octets)) }

// quoted counts digits, as the Q codes each octet by itself.
type quoted int

func (n quoted) with(octets []byte) tally { return n + quoted(qword.Len(octets)) }

// tallyOf is a code's tally of no octets, and whether there is such a code.
func tallyOf(code int) (tally, bool) {
	switch code {
	case ewform.B:
		return based(0), true
	case ewform.Q:
		return quoted(0), true
	}
	return nil, false
}

// digits is how many octets the text of what was counted has.
func digits(so tally) int {
	switch n := so.(type) {
	case based:
		return bcode.Len(int(n))
	case quoted:
		return int(n)
	}
	return 0
}
