package pct

import "sheave/hexa"

// reader takes octets off a list, one after the other: who asks for one has
// asked whether there is more.
type reader struct {
	s  []byte
	at int // the place of the next one
}

// more tells whether there is a next octet.
func (r *reader) more() bool { return r.at < len(r.s) }

// take is the next octet, as it stands.
func (r *reader) take() byte {
	c := r.s[r.at]
	r.at++
	return c
}

// decode is the next octet, as it is read, and whether an escape was taken for it.
func (r *reader) decode() (byte, bool) {
	if c, ok := hexa.Take(r.s, r.at, sign); ok {
		r.at += escapeLen
		return c, true
	}
	return r.take(), false
}
