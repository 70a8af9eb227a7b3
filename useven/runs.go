package useven

import "slices"

// runs goes through a text, from run to run.
type runs struct {
	rest []rune // what is not gone through so far
}

// more tells whether there is something left.
func (r *runs) more() bool { return len(r.rest) > 0 }

// next takes off the next run, which is empty if there is none, and what
// stands ahead of it.
func (r *runs) next() (ahead, run []rune) {
	ahead = r.until(begins)
	return ahead, r.until(Direct)
}

// until takes off all ahead of the first sign that is one of those.
func (r *runs) until(one func(c rune) bool) []rune {
	many := slices.IndexFunc(r.rest, one)
	if many < 0 {
		many = len(r.rest)
	}
	taken := r.rest[:many]
	r.rest = r.rest[many:]
	return taken
}

// begins tells whether a run begins at a sign: a `+` goes on in one, but
// begins none.
func begins(c rune) bool { return !Direct(c) && c != opening }
