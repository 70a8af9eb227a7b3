package ewtok

import (
	"regexp"
	"slices"
	"strings"
	"testing"
	"time"
)

// The words of the document as patterns, over octets.
var (
	onePiece = regexp.MustCompile(`[ \t\r\n]+|[^ \t\r\n]+`)
	oneGap   = regexp.MustCompile(`^[ \t\r\n]+\z`)
	oneWord  = regexp.MustCompile("^=\\?[!#$%&'*+\\-.0-9A-Z^_`a-z{|}~]+\\?[BbQq]\\?[!->@-~]+\\?=\\z")
)

// some are kinds that a caller may have in a list: those that are, and some that are none.
var some = []int{-1 << 63, -1, 0, Gap, Plain, Word, 4, 256 + 1, 256 + 3, 1<<32 + 1, 1<<32 + 3, 1<<63 - 1}

// told is a piece with its text as a text, so that lists of them can be compared.
type told struct {
	kind int
	text string
}

// toldOf are pieces like that.
func toldOf(l []Piece) []told {
	var out []told
	for _, piece := range l {
		out = append(out, told{piece.Kind, string(piece.Text)})
	}
	return out
}

// kindExpected is a run's kind by the words.
func kindExpected(run string) int {
	switch {
	case oneGap.MatchString(run):
		return 1
	case oneWord.MatchString(run) && len(run) <= 75:
		return 3
	}
	return 2
}

// piecesExpected are the pieces by the words.
func piecesExpected(s string) []told {
	var out []told
	for _, text := range onePiece.FindAllString(s, -1) {
		out = append(out, told{kindExpected(text), text})
	}
	return out
}

// hiddenExpected tells by the words which pieces of such kinds are hidden: wherever 3, 1, 3 stand, the one in the middle.
func hiddenExpected(kinds []int) []bool {
	out := make([]bool, len(kinds))
	for i := range kinds {
		if i+3 <= len(kinds) && slices.Equal(kinds[i:i+3], []int{3, 1, 3}) {
			out[i+1] = true
		}
	}
	return out
}

// check holds all that is told of octets against what is expected.
func check(t *testing.T, s []byte) {
	t.Helper()
	if got, want := Kind(s), kindExpected(string(s)); got != want {
		t.Fatalf("Kind(%q) = %d, want %d", s, got, want)
	}
	pieces, want := Pieces(s), piecesExpected(string(s))
	if got := toldOf(pieces); !slices.Equal(got, want) {
		t.Fatalf("Pieces(%q) = %v, want %v", s, got, want)
	}
	var kinds []int
	words := 0
	for _, piece := range want {
		kinds = append(kinds, piece.kind)
		if piece.kind == 3 {
			words++
		}
	}
	if got := Words(s); got != words {
		t.Fatalf("Words(%q) = %d, want %d", s, got, words)
	}
	hidden := hiddenExpected(kinds)
	if got := Hidden(pieces); !slices.Equal(got, hidden) {
		t.Fatalf("of %q are hidden %t, want %t", s, got, hidden)
	}
	var shown []told
	for i, piece := range want {
		if !hidden[i] {
			shown = append(shown, piece)
		}
	}
	if got := toldOf(Shown(s)); !slices.Equal(got, shown) {
		t.Fatalf("Shown(%q) = %v, want %v", s, got, shown)
	}
	checkTurns(t, s, pieces)
}

// checkTurns holds pieces against P32.3: they are what they were made of, and a gap and a run follow each other by turns.
func checkTurns(t *testing.T, s []byte, pieces []Piece) {
	t.Helper()
	if got := Join(pieces); string(got) != string(s) {
		t.Fatalf("the pieces of %q are joined to %q", s, got)
	}
	for i, piece := range pieces {
		if len(piece.Text) == 0 || piece.Kind != Kind(piece.Text) {
			t.Fatalf("a piece of %q is %q of the kind %d", s, piece.Text, piece.Kind)
		}
		if i > 0 && (piece.Kind == Gap) == (pieces[i-1].Kind == Gap) {
			t.Fatalf("of %q follow each other %v", s, toldOf(pieces[i-1:i+1]))
		}
	}
}

// every hands on all lists of these elements of so many of them.
func every[E any](of []E, many int, do func(s []E)) {
	s := make([]E, many)
	var from func(at int)
	from = func(at int) {
		if at == many {
			do(s)
			return
		}
		for _, c := range of {
			s[at] = c
			from(at + 1)
		}
	}
	from(0)
}

// allOctets are those from 0 to 255.
func allOctets() []byte {
	var s []byte
	for c := range 256 {
		s = append(s, byte(c))
	}
	return s
}

// someOf is a row of so many of these elements that has no short period.
func someOf[E any](of []E, many int) []E {
	s := make([]E, many)
	x := uint32(many) + 1
	for i := range s {
		x = x*1664525 + 1013904223
		s[i] = of[int(x>>16)%len(of)]
	}
	return s
}

// parts are what texts of headers are put together of: gaps, words, and what is nearly one.
func parts() []string {
	return []string{" ", "\t", "\r", "\n", "\r\n ", "=?utf-8?Q?b?=", "=?x?b??=", "=?x?b?Zg?=", "a", "=?", "?=", "\xC3\xA9", "(", "\x00"}
}

// P32.1

func TestConstants(t *testing.T) {
	if Gap != 1 || Plain != 2 || Word != 3 {
		t.Errorf("the kinds are %d, %d, %d", Gap, Plain, Word)
	}
}

func TestKindCases(t *testing.T) {
	cases := []struct {
		run  string
		want int
	}{
		{"", Plain},
		// Gaps: blanks, 13 and 10, in any order, and nothing besides.
		{" ", Gap}, {"\t", Gap}, {"\r", Gap}, {"\n", Gap}, {"\r\n", Gap}, {"\n\r", Gap}, {"\r\n ", Gap}, {" \t\r\n\n\r\t ", Gap}, {strings.Repeat(" ", 1000), Gap},
		{" a", Plain}, {"a ", Plain}, {" a ", Plain}, {"\r\na", Plain}, {"\v", Plain}, {"\f", Plain}, {"\x00", Plain}, {"\x85", Plain}, {"\xA0", Plain}, {"\xC2\xA0", Plain}, {" \x00", Plain}, {"\x7F", Plain},
		// Words: what layer 29 takes as one.
		{"=?utf-8?Q?b?=", Word}, {"=?UTF-8?q?=C3=A9?=", Word}, {"=?x?B?w6k?=", Word}, {"=?utf-8*en?b?w6k=?=", Word}, {"=?x?Q?=?=", Word}, {"=?x?Q?(?=", Word}, {"=?x?Q?\"?=", Word},
		{"=?utf-8?Q??=", Plain}, {"=?utf-8?R?b?=", Plain}, {"=??Q?b?=", Plain}, {"=?utf-8?Q?b?", Plain}, {"=?utf-8?Q?b", Plain}, {"utf-8?Q?b?=", Plain}, {"=?utf-8?Q?b?c?=", Plain}, {"=?utf-8?Q?\xC3?=", Plain}, {"=?utf-8?Q?b?=c", Plain}, {"a=?utf-8?Q?b?=", Plain}, {"(=?utf-8?Q?b?=)", Plain}, {"\"=?utf-8?Q?b?=\"", Plain}, {"=?utf-8?Q?b?==?utf-8?Q?c?=", Plain}, {"=?utf-8?Q?b?=,", Plain},
		// A blank in it, or beside it, is none of a word's.
		{"=?utf-8?Q?b c?=", Plain}, {"=?utf-8?Q?b?= ", Plain}, {" =?utf-8?Q?b?=", Plain}, {"=?utf-8?Q?b?=\r\n", Plain}, {"=?utf-8?Q?b?= =?utf-8?Q?c?=", Plain},
		// At most 75 octets.
		{"=?utf-8?Q?" + strings.Repeat("b", 63) + "?=", Word}, {"=?utf-8?Q?" + strings.Repeat("b", 64) + "?=", Plain}, {"=?utf-8?B?" + strings.Repeat("b", 1000) + "?=", Plain},
		{"a", Plain}, {"a,b", Plain}, {"\xE9", Plain}, {"=", Plain}, {"=?", Plain}, {"?=", Plain}, {"=?=", Plain}, {"=?????=", Plain},
	}
	for _, x := range cases {
		if got := Kind([]byte(x.run)); got != x.want {
			t.Errorf("Kind(%q) = %d, want %d", x.run, got, x.want)
		}
		check(t, []byte(x.run))
	}
}

func TestPiecesCases(t *testing.T) {
	cases := []struct {
		s    string
		want []told
	}{
		{"a =?utf-8?Q?b?= =?utf-8?Q?c?=", []told{{Plain, "a"}, {Gap, " "}, {Word, "=?utf-8?Q?b?="}, {Gap, " "}, {Word, "=?utf-8?Q?c?="}}},
		{"", nil}, {"a", []told{{Plain, "a"}}}, {" ", []told{{Gap, " "}}}, {" a", []told{{Gap, " "}, {Plain, "a"}}}, {"a ", []told{{Plain, "a"}, {Gap, " "}}}, {"\r\n", []told{{Gap, "\r\n"}}},
		// Gaps are as long as can be, and so are runs.
		{"a \t b", []told{{Plain, "a"}, {Gap, " \t "}, {Plain, "b"}}}, {"ab\r\n\tcd\r\n", []told{{Plain, "ab"}, {Gap, "\r\n\t"}, {Plain, "cd"}, {Gap, "\r\n"}}}, {" \n a\r\rb", []told{{Gap, " \n "}, {Plain, "a"}, {Gap, "\r\r"}, {Plain, "b"}}}, {"a\vb\x00c\x85d", []told{{Plain, "a\vb\x00c\x85d"}}},
		// Words beside what is none.
		{"=?x?Q?b?=", []told{{Word, "=?x?Q?b?="}}}, {"=?x?Q?b?=\r\n =?x?Q?c?=", []told{{Word, "=?x?Q?b?="}, {Gap, "\r\n "}, {Word, "=?x?Q?c?="}}}, {"=?x?Q?b?==?x?Q?c?=", []told{{Plain, "=?x?Q?b?==?x?Q?c?="}}}, {"(=?x?Q?b?=)", []told{{Plain, "(=?x?Q?b?=)"}}}, {"=?x?Q?b c?=", []told{{Plain, "=?x?Q?b"}, {Gap, " "}, {Plain, "c?="}}}, {"=?x?Q?b?= , =?x?Q?c?=", []told{{Word, "=?x?Q?b?="}, {Gap, " "}, {Plain, ","}, {Gap, " "}, {Word, "=?x?Q?c?="}}}, {"\xC3\xA9 =?x?B?Zg?=", []told{{Plain, "\xC3\xA9"}, {Gap, " "}, {Word, "=?x?B?Zg?="}}},
		{" =?x?Q?b?= ", []told{{Gap, " "}, {Word, "=?x?Q?b?="}, {Gap, " "}}}, {"=?utf-8?Q?" + strings.Repeat("b", 64) + "?= a", []told{{Plain, "=?utf-8?Q?" + strings.Repeat("b", 64) + "?="}, {Gap, " "}, {Plain, "a"}}},
	}
	for _, x := range cases {
		if got := toldOf(Pieces([]byte(x.s))); !slices.Equal(got, x.want) {
			t.Errorf("Pieces(%q) = %v, want %v", x.s, got, x.want)
		}
		check(t, []byte(x.s))
	}
}

func TestWordsCases(t *testing.T) {
	for s, want := range map[string]int{
		"": 0, "a": 0, " ": 0, "a b": 0, "=?x?Q?b?=": 1, " =?x?Q?b?= ": 1, "a =?x?Q?b?= c": 1, "a =?utf-8?Q?b?= =?utf-8?Q?c?=": 2, "=?x?Q?b?=\r\n =?x?Q?c?=\r\n =?x?b?d?=": 3, "=?x?Q?b?==?x?Q?c?=": 0, "=?x?Q?b c?=": 0, "=?x?Q??=": 0, "=?x?Q?b?= a =?x?Q?b?=": 2,
		strings.Repeat("=?x?Q?b?= ", 500): 500, strings.Repeat("=?x?Q?b?=", 500): 0,
	} {
		if got := Words([]byte(s)); got != want {
			t.Errorf("Words(%q) = %d, want %d", s, got, want)
		}
	}
}

// Whatever pieces are joined: no kind plays a part, nor what a text is.
func TestJoinCases(t *testing.T) {
	piece := func(kind int, text string) Piece { return Piece{kind, []byte(text)} }
	cases := []struct {
		l    []Piece
		want string
	}{
		{nil, ""}, {[]Piece{{}}, ""}, {[]Piece{{}, {}, {Kind: Word}}, ""}, {[]Piece{piece(Plain, "a")}, "a"}, {[]Piece{piece(Plain, "a"), piece(Plain, "b")}, "ab"}, {[]Piece{piece(Gap, "a"), {}, piece(Word, " "), piece(0, "\x00\xFF"), piece(-1, "b c")}, "a \x00\xFFb c"}, {[]Piece{piece(Gap, " "), piece(Gap, " ")}, "  "}, {[]Piece{piece(Word, "=?x?Q?b?="), piece(Gap, "\r\n "), piece(Word, "=?x?Q?c?=")}, "=?x?Q?b?=\r\n =?x?Q?c?="},
	}
	for _, x := range cases {
		if got := Join(x.l); string(got) != x.want {
			t.Errorf("Join(%v) = %q, want %q", toldOf(x.l), got, x.want)
		}
	}
	every(parts(), 3, func(texts []string) {
		for _, kind := range some {
			l := []Piece{piece(kind, texts[0]), piece(kind, texts[1]), piece(Plain, texts[2])}
			if got := Join(l); string(got) != strings.Join(texts, "") {
				t.Fatalf("Join of %q = %q", texts, got)
			}
		}
	})
}

// P32.2

func TestHiddenCases(t *testing.T) {
	for s, want := range map[string][]bool{
		"": nil, " ": {false}, "a": {false}, "=?x?Q?b?=": {false}, "=?x?Q?b?= ": {false, false}, " =?x?Q?b?=": {false, false},
		"a =?utf-8?Q?b?= =?utf-8?Q?c?=": {false, false, false, true, false},
		"=?x?Q?b?=\r\n =?x?Q?c?=":       {false, true, false}, "=?x?Q?b?= a =?x?Q?c?=": {false, false, false, false, false}, "a =?x?Q?b?=": {false, false, false}, "=?x?Q?b?= a": {false, false, false}, "a b": {false, false, false}, "=?x?Q?b?= =?x?Q?c d?=": {false, false, false, false, false}, "=?x?Q?b?= =?x?Q?c?=.": {false, false, false},
		"=?x?Q?b?= =?y?B?c?=\t\n=?x?Q?d?= ": {false, true, false, true, false, false},
	} {
		if got := Hidden(Pieces([]byte(s))); !slices.Equal(got, want) {
			t.Errorf("of %q are hidden %t, want %t", s, got, want)
		}
	}
}

// Kinds alone tell, be they such as the texts are or not, and be they by turns or not.
func TestEveryKindsHidden(t *testing.T) {
	for many := range 6 {
		of := some
		if many > 4 {
			of = []int{0, Gap, Plain, Word, 4}
		}
		every(of, many, func(kinds []int) {
			for _, text := range []string{"", " ", "a", "=?x?Q?b?="} {
				l := make([]Piece, many)
				for i := range l {
					l[i] = Piece{kinds[i], []byte(text)}
				}
				if got, want := Hidden(l), hiddenExpected(kinds); !slices.Equal(got, want) {
					t.Fatalf("of the kinds %d are hidden %t, want %t", kinds, got, want)
				}
			}
		})
	}
	kinds := someOf([]int{Gap, Word, Word, Plain}, 5000)
	l := make([]Piece, len(kinds))
	for i := range l {
		l[i].Kind = kinds[i]
	}
	if got := Hidden(l); !slices.Equal(got, hiddenExpected(kinds)) {
		t.Error("of many kinds are hidden others")
	}
}

func TestShownCases(t *testing.T) {
	cases := []struct{ s, want string }{
		{"", ""}, {" ", " "}, {"a  b", "a  b"}, {"a =?utf-8?Q?b?= =?utf-8?Q?c?=", "a =?utf-8?Q?b?==?utf-8?Q?c?="}, {"=?x?Q?b?=\r\n =?x?Q?c?=", "=?x?Q?b?==?x?Q?c?="}, {" =?x?Q?b?= ", " =?x?Q?b?= "}, {"=?x?Q?b?= a", "=?x?Q?b?= a"}, {"=?x?Q?b?= =?x?Q?c?= =?x?Q?d?= e =?x?Q?f?=", "=?x?Q?b?==?x?Q?c?==?x?Q?d?= e =?x?Q?f?="},
	}
	for _, x := range cases {
		if got := Join(Shown([]byte(x.s))); string(got) != x.want {
			t.Errorf("of %q is shown %q, want %q", x.s, got, x.want)
		}
		check(t, []byte(x.s))
	}
	want := []told{{Plain, "a"}, {Gap, " "}, {Word, "=?utf-8?Q?b?="}, {Word, "=?utf-8?Q?c?="}}
	if got := toldOf(Shown([]byte("a =?utf-8?Q?b?= =?utf-8?Q?c?="))); !slices.Equal(got, want) {
		t.Errorf("of the example are shown %v", got)
	}
}

// P32.3, with all the rest: check asks all of it of whatever it is handed.

func TestEveryTwoOctets(t *testing.T) {
	for many := range 3 {
		every(allOctets(), many, func(s []byte) { check(t, s) })
	}
}

// Each octet in a word, in a gap between words, and beside a word.
func TestEachOctetAtEachPlace(t *testing.T) {
	for _, s := range []string{"a =?utf-8?Q?b?= =?utf-8?Q?c?=", "=?x?b?Zg?=\r\n =?y?q?c?="} {
		for at := range len(s) + 1 {
			for _, c := range allOctets() {
				check(t, []byte(s[:at]+string([]byte{c})+s[at:]))
				check(t, []byte(s[:at]+string([]byte{c})+s[min(at+1, len(s)):]))
			}
			check(t, []byte(s[:at]))
			check(t, []byte(s[at:]))
		}
	}
}

func TestEveryShortInput(t *testing.T) {
	for many := range 8 {
		every([]byte(" \r\na=?"), many, func(s []byte) { check(t, s) })
	}
	for many := range 5 {
		every([]byte(" \t\r\n\v\f\x00\x1F!\x7F\x80\x85\xA0\xFF"), many, func(s []byte) { check(t, s) })
	}
	for many := range 5 {
		every(parts(), many, func(texts []string) { check(t, []byte(strings.Join(texts, ""))) })
	}
}

func TestRows(t *testing.T) {
	for many := range 400 {
		check(t, []byte(strings.Join(someOf(parts(), many), "")))
		check(t, someOf([]byte(" \r\na"), many))
		check(t, someOf(allOctets(), many))
		check(t, []byte(strings.Join(someOf([]string{"=?x?Q?b?=", " ", "=?x?Q?b?= ", "a "}, many), "")))
		check(t, []byte("=?x?Q?"+strings.Repeat("b", many)+"?= =?x?B?"+strings.Repeat("b", many)+"?="))
	}
}

func TestLongTexts(t *testing.T) {
	begin := time.Now()
	for _, s := range []string{strings.Repeat("=?x?Q?b?= ", 100000), strings.Repeat(" ", 1000000), strings.Repeat("a", 1000000), strings.Repeat("a ", 500000), "=?x?Q?" + strings.Repeat("?", 1000000) + "?=", strings.Repeat("=?", 500000)} {
		pieces := Pieces([]byte(s))
		checkTurns(t, []byte(s), pieces)
		hidden := 0
		for _, is := range Hidden(pieces) {
			if is {
				hidden++
			}
		}
		if words := Words([]byte(s)); hidden != max(words-1, 0) || len(Shown([]byte(s))) != len(pieces)-hidden {
			t.Errorf("of %d pieces are %d words, and hidden %d", len(pieces), words, hidden)
		}
	}
	if took := time.Since(begin); took > 20*time.Second {
		t.Errorf("long texts took %v", took)
	}
}
