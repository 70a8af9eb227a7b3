package ewform

import (
	"sheave/api"
	"sheave/bcode"
	"sheave/bloose"
	"sheave/qword"
)

// isCode tells whether a number is a code's.
func isCode(n int) bool { return B <= n && n <= Q }

// codeOf is the code of a letter, 0 of what is none.
func codeOf(letter []byte) int {
	switch string(letter) {
	case "B", "b":
		return B
	case "Q", "q":
		return Q
	}
	return 0
}

// letterOf is the letter that a code is laid with.
func letterOf(code int) string {
	if code == B {
		return "B"
	}
	return "Q"
}

// encode is the text that octets are laid as.
func encode(code int, s []byte) []byte {
	if code == B {
		return bcode.Lay(s)
	}
	return qword.Lay(s)
}

// textLen is how long that text is.
func textLen(code int, s []byte) int {
	if code == B {
		return bcode.Len(len(s))
	}
	return qword.Len(s)
}

// decode are the octets that a text is read as.
func decode(code int, text []byte) []byte {
	if code == B {
		return bloose.Read(text)
	}
	return qword.Read(text)
}

// isRight tells whether a text is a strict code.
func isRight(code int, text []byte) bool {
	if code == B {
		return bcode.Right(text)
	}
	return qword.Check(text) == api.OK
}
