// Package octet is layer 1: which octets are what: see shared/doc/01-octet.md.
package octet

import "strings"

// The kinds of octets. Each is a bit of its own, so that an octet's kinds and
// the kinds that are asked for are sums.
const (
	Control = 1 << iota
	Blank
	Printable
	Digit
	Letter
	Special
	Token
	Word
	Attribute
	Base
)

const (
	specials     = "()<>@,;:\\\"/[]?="
	noAttributes = "*'%" // tokens may have them; sections and escapes of parameters need them
	wordSigns    = "!*+-/"
	baseSigns    = "+/"
	del          = 127
)

// Kinds are an octet's kinds.
func Kinds(c byte) int {
	switch {
	case c == '\t':
		return Control | Blank
	case c == ' ':
		return Blank
	case c < ' ' || c == del:
		return Control
	case c > del:
		return 0
	}
	return Printable | alphanumeric(c) | syntactic(c) | coded(c)
}

// alphanumeric tells a digit or a letter.
func alphanumeric(c byte) int {
	low := Lower(c)
	switch {
	case '0' <= c && c <= '9':
		return Digit
	case 'a' <= low && low <= 'z':
		return Letter
	}
	return 0
}

// syntactic tells what a printable octet is in structured headers.
func syntactic(c byte) int {
	switch {
	case among(specials, c):
		return Special
	case among(noAttributes, c):
		return Token
	}
	return Token | Attribute
}

// coded tells which codes leave an octet as it is, or have it as a digit.
func coded(c byte) int {
	if alphanumeric(c) != 0 {
		return Word | Base
	}
	kinds := 0
	if among(wordSigns, c) {
		kinds |= Word
	}
	if among(baseSigns, c) {
		kinds |= Base
	}
	return kinds
}

func among(signs string, c byte) bool { return strings.IndexByte(signs, c) >= 0 }

// Is tells whether it is of one of some kinds.
func Is(c byte, kinds int) bool { return Kinds(c)&kinds != 0 }

// All tells whether each is.
func All(s []byte, kinds int) bool {
	for _, c := range s {
		if !Is(c, kinds) {
			return false
		}
	}
	return true
}

// Lower is a letter as a small one.
func Lower(c byte) byte {
	if 'A' <= c && c <= 'Z' {
		return c + ('a' - 'A')
	}
	return c
}

// Fold is each as Lower.
func Fold(s []byte) []byte {
	folded := make([]byte, len(s))
	for i, c := range s {
		folded[i] = Lower(c)
	}
	return folded
}

// Same tells whether both are the same, folded.
func Same(a, b []byte) bool {
	if len(a) != len(b) {
		return false
	}
	for i, c := range a {
		if Lower(c) != Lower(b[i]) {
			return false
		}
	}
	return true
}

// Count is how many are of some kinds.
func Count(s []byte, kinds int) int {
	many := 0
	for _, c := range s {
		if Is(c, kinds) {
			many++
		}
	}
	return many
}

// Trim is without blanks at the ends.
func Trim(s []byte) []byte {
	from, to := 0, len(s)
	for from < to && Is(s[from], Blank) {
		from++
	}
	for from < to && Is(s[to-1], Blank) {
		to--
	}
	// A copy, as a piece of s would let the caller write into s.
	return append([]byte(nil), s[from:to]...)
}
