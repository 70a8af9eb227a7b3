package atom

import "sheave/octet"

const (
	opens  = '('
	closes = ')'
	slash  = '\\' // stands ahead of an octet of a comment that neither opens nor closes one
)

// isSpace tells whether an octet is a gap by itself.
func isSpace(c byte) bool { return c == '\r' || c == '\n' || octet.Is(c, octet.Blank) }

// comment tells where the comment that begins at a place ends, and how deep
// comments lie in each other there, itself among them. What is open is
// counted, as a call for each comment might go deeper than there is room.
func comment(s []byte, at int) (end, deepest int) {
	open := 0
	for at < len(s) {
		c := s[at]
		at++
		switch c {
		case opens:
			open++
			deepest = max(deepest, open)
		case closes:
			open--
			if open == 0 {
				return at, deepest
			}
		case slash:
			at++
		}
	}
	// A slash that is the last octet has none behind it to go over.
	return len(s), deepest
}
