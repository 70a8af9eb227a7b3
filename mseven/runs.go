package mseven

import (
	"bytes"
	"iter"
	"slices"

	"sheave/api"
	"sheave/bmod"
	"sheave/sread"
)

// runs yields each run of a text, with what stands ahead of it; behind the last
// one, what is left stands ahead of an empty one.
func runs(t []rune) iter.Seq2[[]rune, []rune] {
	return func(yield func(ahead, run []rune) bool) {
		for rest := t; len(rest) > 0; {
			var ahead, run []rune
			ahead, rest = cut(rest, needsRun)
			run, rest = cut(rest, isPlain)
			if !yield(ahead, run) {
				return
			}
		}
	}
}

// isPlain tells whether a sign stands in no run.
func isPlain(c rune) bool { return firstPlain <= c && c <= lastPlain }

// needsRun tells whether a sign stands in runs.
func needsRun(c rune) bool { return !isPlain(c) }

// cut parts what stands ahead of the first one of those from all the others.
func cut[E any](s []E, one func(c E) bool) (ahead, others []E) {
	many := slices.IndexFunc(s, one)
	if many < 0 {
		many = len(s)
	}
	return s[:many], s[many:]
}

// pieces yields what octets are read as, from the first one on: a run's digits,
// or, beside none, one sign.
func pieces(s []byte) iter.Seq2[[]byte, rune] {
	return func(yield func(digits []byte, sign rune) bool) {
		for rest := s; len(rest) > 0; {
			var digits []byte
			var sign rune
			digits, sign, rest = take(rest)
			if !yield(digits, sign) {
				return
			}
		}
	}
}

// take takes the first piece of octets that are some, and tells what is behind it.
func take(s []byte) (digits []byte, sign rune, behind []byte) {
	first := rune(s[0])
	switch {
	case first == opening:
		return opened(s[1:])
	case isPlain(first):
		return nil, first, s[1:]
	}
	return nil, api.Broken, s[1:]
}

// opened is the piece of an `&` that octets stand behind, and what is behind it.
func opened(s []byte) (digits []byte, sign rune, behind []byte) {
	digits, behind = cut(s, isOther)
	behind, closed := bytes.CutPrefix(behind, []byte{closing})
	switch {
	case len(digits) > 0:
		return digits, 0, behind
	case closed:
		return nil, opening, behind
	}
	return nil, api.Broken, behind
}

// isOther tells whether an octet is no digit.
func isOther(c byte) bool {
	_, ok := bmod.Value(c)
	return !ok
}

// signs are those that a text has of a run's digits: what is left over has one,
// too, that Run tells nothing of, and so the whole run is read by layer 23.
func signs(digits []byte) []rune {
	return sread.Read(append([]byte{'+'}, bmod.Usual(digits)...))
}
