package utfall

import (
	"bytes"
	"math"
	"slices"
	"testing"
	"unicode/utf8"

	"sheave/api"
)

// everyScalar hands on every scalar value.
func everyScalar(yield func(rune) bool) {
	for c := rune(0); c <= 0x10FFFF; c++ {
		if c >= 0xD800 && c <= 0xDFFF {
			continue
		}
		if !yield(c) {
			return
		}
	}
}

// allScalars is the text of every scalar value.
func allScalars() []rune { return slices.Collect(everyScalar) }

// noScalars are numbers that are no scalar values.
func noScalars() []rune {
	return []rune{-1, -2, -0x41, -0xD800, -0x10000, math.MinInt32, math.MinInt32 + 1,
		0xD800, 0xD801, 0xDBFF, 0xDC00, 0xDFFE, 0xDFFF,
		0x110000, 0x110001, 0x1FFFFF, 0x200000, 0x1000041, math.MaxInt32 - 1, math.MaxInt32}
}

// reading is all that is told of octets.
type reading struct {
	text   []rune
	strict api.Errno
	broken int
}

// seconds are the least and the greatest octet that may stand behind a first
// one, and how many octets there are then; written out, as no other code has it.
func seconds(first byte) (least, most byte, whole int) {
	switch {
	case first >= 0xC2 && first <= 0xDF:
		return 0x80, 0xBF, 2
	case first == 0xE0:
		return 0xA0, 0xBF, 3
	case first == 0xED:
		return 0x80, 0x9F, 3
	case first >= 0xE1 && first <= 0xEF:
		return 0x80, 0xBF, 3
	case first == 0xF0:
		return 0x90, 0xBF, 4
	case first >= 0xF1 && first <= 0xF3:
		return 0x80, 0xBF, 4
	case first == 0xF4:
		return 0x80, 0x8F, 4
	}
	return 0, 0, 0
}

// subpart is how long the maximal subpart is at the beginning of octets that
// no scalar value begins, and whether it is well formed so far.
func subpart(s []byte) (many int, formed bool) {
	least, most, whole := seconds(s[0])
	if whole == 0 {
		return 1, false
	}
	if len(s) == 1 || s[1] < least || s[1] > most {
		return 1, true
	}
	many = 2
	for many < len(s) && many < whole && s[many] >= 0x80 && s[many] <= 0xBF {
		many++
	}
	return many, true
}

// expected is the reading of octets as the document has it, whole signs by the
// library.
func expected(s []byte) reading {
	var out reading
	for len(s) > 0 {
		c, many := utf8.DecodeRune(s)
		if c != utf8.RuneError || many == 3 {
			out.text = append(out.text, c)
			s = s[many:]
			continue
		}
		many, formed := subpart(s)
		if out.broken == 0 {
			out.strict = api.ErrForm
			if formed && many == len(s) {
				out.strict = api.ErrEnd
			}
		}
		out.text = append(out.text, 0xFFFD)
		out.broken++
		s = s[many:]
	}
	return out
}

// ask holds all that the package tells of octets against what is expected.
func ask(t *testing.T, s []byte) {
	t.Helper()
	want := expected(s)
	if got := Read(s); !slices.Equal(got, want.text) {
		t.Fatalf("Read(% x) = %x, want %x", s, got, want.text)
	}
	if got := Count(s); got != len(want.text) {
		t.Fatalf("Count(% x) = %d, want %d", s, got, len(want.text))
	}
	if got := Broken(s); got != want.broken {
		t.Fatalf("Broken(% x) = %d, want %d", s, got, want.broken)
	}
	if got := Right(s); got != (want.strict == api.OK) || got != utf8.Valid(s) {
		t.Fatalf("Right(% x) = %v", s, got)
	}
	if got := Mend(s); string(got) != string(want.text) {
		t.Fatalf("Mend(% x) = % x, want % x", s, got, string(want.text))
	}
	strict := want.text
	if want.strict != api.OK {
		strict = nil
	}
	if got, err := Strict(s); !slices.Equal(got, strict) || err != want.strict {
		t.Fatalf("Strict(% x) = %x, %d, want %x, %d", s, got, err, strict, want.strict)
	}
}

// rows hands on every row of so many octets out of some, in one list that is
// written over.
func rows(octets []byte, many int) func(func([]byte) bool) {
	return func(yield func([]byte) bool) {
		row := make([]byte, many)
		places := make([]int, many)
		for {
			for i, p := range places {
				row[i] = octets[p]
			}
			if !yield(row) {
				return
			}
			i := many - 1
			for i >= 0 && places[i] == len(octets)-1 {
				places[i] = 0
				i--
			}
			if i < 0 {
				return
			}
			places[i]++
		}
	}
}

// edges are the octets where something begins or ends, and some between.
func edges() []byte {
	return []byte{0x00, 'A', 0x7F, 0x80, 0x8F, 0x90, 0x9F, 0xA0, 0xBF, 0xC0, 0xC1, 0xC2, 0xDF,
		0xE0, 0xE2, 0xED, 0xEF, 0xF0, 0xF1, 0xF4, 0xF5, 0xFF}
}

// parts are wholes and pieces of signs, to be put behind each other.
func parts() []string {
	return []string{"", "A", "\x00", "\xC3\xA9", "\xE2\x82\xAC", "\xEF\xBF\xBD", "\xF0\x9F\x98\x80", "\xF4\x8F\xBF\xBF",
		"\xC3", "\xE2", "\xE2\x82", "\xF0", "\xF0\x9F", "\xF0\x9F\x98", "\xE0\xA0", "\xED\x9F", "\xF4\x8F",
		"\x80", "\xBF\xBF", "\xC0\x80", "\xE0\x80\x80", "\xED\xA0\x80", "\xF0\x80\x80\x80", "\xF4\x90\x80\x80", "\xFF"}
}

// roomy is a list with room behind its end, that is filled so as to go on with
// a sign that the list may end in.
func roomy(text string) []byte {
	s := append(make([]byte, 0, 64), text...)
	fill(room(s), 0x82)
	return s
}

// room is what lies behind a list's end.
func room(s []byte) []byte { return s[len(s):cap(s)] }

// fill fills a list to its capacity, so that memory that is shared shows.
func fill[E any](s []E, with E) {
	s = s[:cap(s)]
	for i := range s {
		s[i] = with
	}
}

// P5.1

func TestLayAndLen(t *testing.T) {
	cases := []struct {
		text []rune
		want string
	}{
		{nil, ""},
		{[]rune{}, ""},
		{[]rune{0}, "\x00"},
		{[]rune{'A'}, "A"},
		{[]rune{'a', 13, 10, 'b'}, "a\r\nb"},
		{[]rune{0x7F}, "\x7F"},
		{[]rune{0x80}, "\xC2\x80"},
		{[]rune{0xE9}, "\xC3\xA9"},
		{[]rune{0x7FF}, "\xDF\xBF"},
		{[]rune{0x800}, "\xE0\xA0\x80"},
		{[]rune{0x20AC}, "\xE2\x82\xAC"},
		{[]rune{0xD7FF, 0xE000}, "\xED\x9F\xBF\xEE\x80\x80"},
		{[]rune{0xFEFF, 'a'}, "\xEF\xBB\xBFa"},
		{[]rune{0xFFFD}, "\xEF\xBF\xBD"},
		{[]rune{0xFFFF}, "\xEF\xBF\xBF"},
		{[]rune{0x10000}, "\xF0\x90\x80\x80"},
		{[]rune{0x1F600}, "\xF0\x9F\x98\x80"},
		{[]rune{0x10FFFF}, "\xF4\x8F\xBF\xBF"},
		{[]rune{'c', 'a', 'f', 0xE9}, "caf\xC3\xA9"},
		{[]rune{0x10FFFF, 'a', 0x20AC, 0xE9, 0}, "\xF4\x8F\xBF\xBFa\xE2\x82\xAC\xC3\xA9\x00"},
		{[]rune{0xE9, 0xE9, 0xE9}, "\xC3\xA9\xC3\xA9\xC3\xA9"},
	}
	for _, x := range cases {
		if got, err := Lay(x.text); string(got) != x.want || err != api.OK {
			t.Errorf("Lay(%x) = % x, %d, want % x", x.text, got, err, x.want)
		}
		if got := Len(x.text); got != len(x.want) {
			t.Errorf("Len(%x) = %d, want %d", x.text, got, len(x.want))
		}
	}
}

func TestLayOfEverySign(t *testing.T) {
	for c := range everyScalar {
		want := utf8.AppendRune([]byte("b"), c)
		if got, err := Lay([]rune{'b', c}); !bytes.Equal(got, want) || err != api.OK {
			t.Fatalf("Lay(b, %#x) = % x, %d, want % x", c, got, err, want)
		}
		if got := Len([]rune{c}); got != len(want)-1 {
			t.Fatalf("Len(%#x) = %d, want %d", c, got, len(want)-1)
		}
	}
}

func TestLayOfAllSigns(t *testing.T) {
	text := allScalars()
	want := string(text)
	if got, err := Lay(text); string(got) != want || err != api.OK {
		t.Errorf("all signs are laid otherwise, as %d octets, %d", len(got), err)
	}
	if got := Len(text); got != len(want) {
		t.Errorf("Len of all signs is %d, want %d", got, len(want))
	}
}

func TestLayOfWhatIsNotRight(t *testing.T) {
	for _, c := range noScalars() {
		texts := [][]rune{{c}, {c, 'a'}, {'a', c}, {'a', c, 0xE9}, {c, c}, {0x20AC, 0x1F600, c}, {13, 10, c}}
		for _, text := range texts {
			if got, err := Lay(text); len(got) != 0 || err != api.ErrScalar {
				t.Errorf("Lay(%x) = % x, %d", text, got, err)
			}
		}
	}
	for c := rune(0xD800); c <= 0xDFFF; c++ {
		if got, err := Lay([]rune{'a', c}); len(got) != 0 || err != api.ErrScalar {
			t.Fatalf("Lay(a, %#x) = % x, %d", c, got, err)
		}
	}
}

func TestLenOfWhatIsNotRight(t *testing.T) {
	for _, c := range noScalars() {
		cases := []struct {
			text []rune
			want int
		}{
			{[]rune{c}, 0},
			{[]rune{c, c}, 0},
			{[]rune{c, 'a'}, 1},
			{[]rune{0xE9, c}, 2},
			{[]rune{0x20AC, c, 'a'}, 4},
			{[]rune{c, 0x1F600, c, 0x20AC, c}, 7},
		}
		for _, x := range cases {
			if got := Len(x.text); got != x.want {
				t.Errorf("Len(%x) = %d, want %d", x.text, got, x.want)
			}
		}
	}
	// A pair of surrogates is no sign here.
	if got := Len([]rune{0xD83D, 0xDE00}); got != 0 {
		t.Errorf("Len of two surrogates is %d", got)
	}
}

func TestRead(t *testing.T) {
	const bad = 0xFFFD
	cases := []struct {
		s    string
		want []rune
	}{
		{"", nil},
		{"A", []rune{'A'}},
		{"\x00\r\n", []rune{0, 13, 10}},
		{"caf\xC3\xA9", []rune{'c', 'a', 'f', 0xE9}},
		{"\xEF\xBB\xBFa", []rune{0xFEFF, 'a'}},
		{"\xEF\xBF\xBD", []rune{bad}},
		{"\xF0\x9F\x98\x80\xE2\x82\xAC", []rune{0x1F600, 0x20AC}},
		{"\xFF\x41", []rune{bad, 0x41}},
		{"\xFF\xFE", []rune{bad, bad}},
		{"\x80", []rune{bad}},
		{"\x80\xBF\x80", []rune{bad, bad, bad}},
		{"\xC3", []rune{bad}},
		{"\xC3A", []rune{bad, 'A'}},
		{"\xC3\xC3\xA9", []rune{bad, 0xE9}},
		{"\xC3\xA9\xA9", []rune{0xE9, bad}},
		{"\xC0\x80", []rune{bad, bad}},
		{"\xC1\xBF", []rune{bad, bad}},
		{"\xE2\x82", []rune{bad}},
		{"\xE2\x82A", []rune{bad, 'A'}},
		{"\xE2\x82\xE2\x82\xAC", []rune{bad, 0x20AC}},
		{"\xE2\x82\xE2\x82", []rune{bad, bad}},
		{"\xE0\x80\x80", []rune{bad, bad, bad}},
		{"\xE0\x9F\xBF", []rune{bad, bad, bad}},
		{"\xE0\xA0\x80", []rune{0x800}},
		{"\xED\x9F\xBF", []rune{0xD7FF}},
		{"\xED\xA0\x80", []rune{bad, bad, bad}},
		{"\xED\xA0\xBD\xED\xB8\x80", []rune{bad, bad, bad, bad, bad, bad}},
		{"\xF0\x9F\x98", []rune{bad}},
		{"\xF0\x9F\x98A", []rune{bad, 'A'}},
		{"\xF0\x9F\x98\xF0\x9F\x98\x80", []rune{bad, 0x1F600}},
		{"\xF0\x9F\x98\x80\x80", []rune{0x1F600, bad}},
		{"\xF0\x8F\xBF\xBF", []rune{bad, bad, bad, bad}},
		{"\xF0\x90\x80\x80", []rune{0x10000}},
		{"\xF4\x8F\xBF\xBF", []rune{0x10FFFF}},
		{"\xF4\x90\x80\x80", []rune{bad, bad, bad, bad}},
		{"\xF5\x80\x80\x80", []rune{bad, bad, bad, bad}},
		{"\xF8\x88\x80\x80\x80", []rune{bad, bad, bad, bad, bad}},
		{"a\xF1\x80\x80\xE1\x80\xC2b\x80c\x80\xBFd", []rune{'a', bad, bad, bad, 'b', bad, 'c', bad, bad, 'd'}},
	}
	for _, x := range cases {
		if got := Read([]byte(x.s)); !slices.Equal(got, x.want) {
			t.Errorf("Read(% x) = %x, want %x", x.s, got, x.want)
		}
		if got := Count([]byte(x.s)); got != len(x.want) {
			t.Errorf("Count(% x) = %d, want %d", x.s, got, len(x.want))
		}
	}
}

func TestNothing(t *testing.T) {
	for _, s := range [][]byte{nil, {}} {
		if len(Read(s)) != 0 || Count(s) != 0 || Broken(s) != 0 || len(Mend(s)) != 0 || !Right(s) {
			t.Error("something is told of no octets")
		}
		if got, err := Strict(s); len(got) != 0 || err != api.OK {
			t.Errorf("Strict of no octets is %x, %d", got, err)
		}
	}
}

func TestEveryShortList(t *testing.T) {
	every := make([]byte, 256)
	for c := range every {
		every[c] = byte(c)
	}
	for many := range 3 {
		for s := range rows(every, many) {
			ask(t, s)
		}
	}
	for many := 3; many <= 4; many++ {
		for s := range rows(edges(), many) {
			ask(t, s)
		}
	}
	for s := range rows([]byte{'A', 0x80, 0x90, 0xA0, 0xC3, 0xE0, 0xF0, 0xF4, 0xFF}, 5) {
		ask(t, s)
	}
}

func TestPartsBehindEachOther(t *testing.T) {
	for _, a := range parts() {
		for _, b := range parts() {
			for _, c := range parts() {
				ask(t, []byte(a+b+c))
				ask(t, []byte("x"+a+b+"\xC3\xA9"+c))
			}
		}
	}
}

func TestLongLists(t *testing.T) {
	for _, part := range parts() {
		s := bytes.Repeat([]byte(part), 1000)
		ask(t, s)
		ask(t, append(s, "\xE2\x82"...))
		ask(t, append(s, "\xFFz"...))
	}
}

// P5.2

func TestStrict(t *testing.T) {
	cases := []struct {
		s    string
		text []rune
		err  api.Errno
	}{
		{"", nil, api.OK},
		{"A", []rune{'A'}, api.OK},
		{"\x00", []rune{0}, api.OK},
		{"a\xC3\xA9\xE2\x82\xAC", []rune{'a', 0xE9, 0x20AC}, api.OK},
		{"\xEF\xBF\xBD", []rune{0xFFFD}, api.OK},
		{"\xF4\x8F\xBF\xBF", []rune{0x10FFFF}, api.OK},
		// The end is missing, and nothing was wrong ahead.
		{"\xC3", nil, api.ErrEnd},
		{"\xE2\x82", nil, api.ErrEnd},
		{"\xF0\x9F\x98", nil, api.ErrEnd},
		{"abc\xC3", nil, api.ErrEnd},
		{"\xC3\xA9\xE2", nil, api.ErrEnd},
		{"\xEF\xBF\xBD\xF0", nil, api.ErrEnd},
		// Something else stands there.
		{"\xFF", nil, api.ErrForm},
		{"\x80", nil, api.ErrForm},
		{"a\x80", nil, api.ErrForm},
		{"\xC3A", nil, api.ErrForm},
		{"\xC0\x80", nil, api.ErrForm},
		{"\xED\xA0\x80", nil, api.ErrForm},
		{"\xF4\x90\x80\x80", nil, api.ErrForm},
		{"abc\xE2\x82A", nil, api.ErrForm},
		// Both, so that the first one counts.
		{"\xFF\xC3", nil, api.ErrForm},
		{"\xC3\xFF", nil, api.ErrForm},
		{"\xC3A\xC3", nil, api.ErrForm},
		{"\xE2\x82\xE2\x82", nil, api.ErrForm},
		{"\x80a\xF0\x9F\x98", nil, api.ErrForm},
	}
	for _, x := range cases {
		got, err := Strict([]byte(x.s))
		if !slices.Equal(got, x.text) || err != x.err {
			t.Errorf("Strict(% x) = %x, %d, want %x, %d", x.s, got, err, x.text, x.err)
		}
		if right := Right([]byte(x.s)); right != (x.err == api.OK) {
			t.Errorf("Right(% x) = %v", x.s, right)
		}
	}
}

func TestBrokenAndMend(t *testing.T) {
	const bad = "\xEF\xBF\xBD"
	cases := []struct {
		s      string
		broken int
		mended string
	}{
		{"", 0, ""},
		{"abc", 0, "abc"},
		{"caf\xC3\xA9", 0, "caf\xC3\xA9"},
		{bad, 0, bad},
		{bad + bad, 0, bad + bad},
		{bad + "\xFF", 1, bad + bad},
		{"\xFF", 1, bad},
		{"\xFFA", 1, bad + "A"},
		{"\xFF\xFF\xFF", 3, bad + bad + bad},
		{"\xE2\x82", 1, bad},
		{"\xE2\x82\xE2", 2, bad + bad},
		{"a\xE2\x82b", 1, "a" + bad + "b"},
		{"\xF0\x9F\x98\x80\xF0\x9F\x98", 1, "\xF0\x9F\x98\x80" + bad},
		{"\xED\xA0\x80", 3, bad + bad + bad},
		{"\xF4\x90\x80\x80", 4, bad + bad + bad + bad},
		{"\xC0\x80\x00", 2, bad + bad + "\x00"},
	}
	for _, x := range cases {
		if got := Broken([]byte(x.s)); got != x.broken {
			t.Errorf("Broken(% x) = %d, want %d", x.s, got, x.broken)
		}
		if got := Mend([]byte(x.s)); string(got) != x.mended {
			t.Errorf("Mend(% x) = % x, want % x", x.s, got, x.mended)
		}
		if got := Right([]byte(x.s)); got != (x.broken == 0) {
			t.Errorf("Right(% x) = %v", x.s, got)
		}
	}
}

// P5.3

func TestWhatIsLaidIsRead(t *testing.T) {
	texts := [][]rune{nil, {0}, {'a', 0xE9, 0x20AC, 0x1F600}, {0xFFFD, 0xFFFD}, {0x10FFFF, 0x10000, 0xFFFF, 0x800, 0x7FF, 0x80, 0x7F}, allScalars()}
	for _, text := range texts {
		laid, err := Lay(text)
		if err != api.OK || !Right(laid) || Broken(laid) != 0 || Count(laid) != len(text) || Len(text) != len(laid) {
			t.Errorf("%d signs are laid as %d octets, %d, that are not right", len(text), len(laid), err)
		}
		if !slices.Equal(Read(laid), text) || !bytes.Equal(Mend(laid), laid) {
			t.Errorf("what %d signs are laid as is read, or mended, as something else", len(text))
		}
		if got, err := Strict(laid); !slices.Equal(got, text) || err != api.OK {
			t.Errorf("what %d signs are laid as is read strictly as %d, %d", len(text), len(got), err)
		}
	}
}

func TestEverySignBetweenOthers(t *testing.T) {
	for c := range everyScalar {
		text := []rune{0x20AC, c, 'a', c}
		laid, err := Lay(text)
		if got := Read(laid); !slices.Equal(got, text) || err != api.OK {
			t.Fatalf("%x is laid as % x, %d, and read as %x", text, laid, err, got)
		}
	}
}

// askMended holds what is read, and what is mended, against the promise.
func askMended(t *testing.T, s []byte) {
	t.Helper()
	read := Read(s)
	for _, c := range read {
		if !utf8.ValidRune(c) {
			t.Fatalf("of % x %#x is read", s, c)
		}
	}
	if len(read) > len(s) {
		t.Fatalf("of %d octets %d signs are read", len(s), len(read))
	}
	mended := Mend(s)
	if !Right(mended) || Broken(mended) != 0 {
		t.Fatalf("% x is mended to % x, that is not right", s, mended)
	}
	if got := Read(mended); !slices.Equal(got, read) {
		t.Fatalf("% x is read as %x, and mended as %x", s, read, got)
	}
	if got := Mend(mended); !bytes.Equal(got, mended) {
		t.Fatalf("% x is mended to % x, and that to % x", s, mended, got)
	}
	if Right(s) && !bytes.Equal(mended, s) {
		t.Fatalf("% x is right, and mended to % x", s, mended)
	}
}

func TestWhatIsReadIsRightAndMended(t *testing.T) {
	for many := range 4 {
		for s := range rows(edges(), many) {
			askMended(t, s)
		}
	}
	for _, a := range parts() {
		for _, b := range parts() {
			askMended(t, []byte(a+b+a))
		}
	}
}

// R4

func TestOctetsAreLeft(t *testing.T) {
	for _, text := range []string{"", "a", "caf\xC3\xA9", "\xE2\x82", "\xFF", "a\xE2\x82b", "\xF0\x9F\x98\x80\xF0\x9F"} {
		s := roomy(text)
		Read(s)
		Strict(s)
		Right(s)
		Count(s)
		Broken(s)
		Mend(s)
		if string(s) != text {
			t.Errorf("of % x % x is left", text, s)
		}
		if !bytes.Equal(room(s), bytes.Repeat([]byte{0x82}, len(room(s)))) {
			t.Errorf("behind % x % x is written", text, room(s))
		}
	}
}

func TestTextsAreLeft(t *testing.T) {
	for _, text := range [][]rune{nil, {'a'}, {'a', 0xE9, 0x1F600}, {0xD800}, {'a', -1, 'b'}, {0x110000, 0x20AC}} {
		list := append(make([]rune, 0, 16), text...)
		fill(list[len(list):], 0xD800)
		Lay(list)
		Len(list)
		if !slices.Equal(list, text) {
			t.Errorf("of %x %x is left", text, list)
		}
		for _, c := range list[len(list):cap(list)] {
			if c != 0xD800 {
				t.Errorf("behind %x %x is written", text, c)
			}
		}
	}
}

func TestSpareCapacityTurnsNothing(t *testing.T) {
	for _, text := range []string{"", "a", "\xE2", "\xE2\x82", "\xF0\x9F\x98", "a\xC3"} {
		ask(t, roomy(text))
	}
	text := append(make([]rune, 0, 8), 'a', 0xE9)
	fill(text[len(text):], 0xD800)
	if got, err := Lay(text); string(got) != "a\xC3\xA9" || err != api.OK || Len(text) != 3 {
		t.Errorf("Lay is % x, %d, Len %d", got, err, Len(text))
	}
}

// sharesNothing asks a call twice, writes into an answer and into what was
// handed in, and looks whether anything else turns.
func sharesNothing[A, B comparable](t *testing.T, name string, call func([]A) []B, handed []A, a A, b B) {
	t.Helper()
	kept := slices.Clone(handed)
	answer := call(handed)
	before := slices.Clone(answer)
	again := call(handed)
	fill(again, b)
	if !slices.Equal(handed, kept) || !slices.Equal(answer, before) {
		t.Errorf("%s: writing into an answer leaves %v of %v, and turns %v to %v", name, handed, kept, before, answer)
	}
	fill(handed, a)
	if !slices.Equal(answer, before) {
		t.Errorf("%s: the answer %v turns to %v", name, before, answer)
	}
	if third := call(kept); !slices.Equal(third, before) {
		t.Errorf("%s is %v, and later %v", name, before, third)
	}
}

func TestAnswersShareNothing(t *testing.T) {
	lay := func(t []rune) []byte { out, _ := Lay(t); return out }
	strict := func(s []byte) []rune { out, _ := Strict(s); return out }
	for _, text := range []string{"", "a", "abc", "caf\xC3\xA9", "\xF0\x9F\x98\x80", "a\xE2\x82b", "\xFF"} {
		sharesNothing(t, "Read", Read, roomy(text), 'X', 'X')
		sharesNothing(t, "Strict", strict, roomy(text), 'X', 'X')
		sharesNothing(t, "Mend", Mend, roomy(text), 'X', 'X')
		sharesNothing(t, "Lay", lay, append(make([]rune, 0, 16), []rune(text)...), 'X', 'X')
	}
}
