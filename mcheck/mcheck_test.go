package mcheck

import (
	"encoding/base64"
	"fmt"
	"regexp"
	"slices"
	"strconv"
	"strings"
	"testing"
	"unicode/utf16"

	"sheave/api"
	"sheave/mseven"
)

// alphabet writes the digits out, in their order.
const alphabet = "ABCDEFGHIJKLMNOPQRSTUVWXYZabcdefghijklmnopqrstuvwxyz0123456789+,"

// The words of the document as patterns, over octets that are signs of the same numbers.
var (
	onePiece = regexp.MustCompile(`(?s)&-|&([A-Za-z0-9+,]+)(-?)|.`)
	itself   = regexp.MustCompile(`^[\x20-\x25\x27-\x7E]$`)
	plain    = regexp.MustCompile(`[\x20-\x7E]`)
)

// signEdges are signs that stand beside others of another kind, or of another length.
var signEdges = []rune{'A', '-', '&', '+', ',', ' ', '~', 0, 31, 127, 0xE9, 0x20AC, 0xD7FF, 0xE000, 0xFFFD, 0xFFFF, 0x10000, 0x1F600, 0x10FFFF}

// octetEdges are octets that stand beside others of another kind.
var octetEdges = []byte("A,+/&-=09z. ~\x00\x1F\x7F\x80\xC3\xA9\xFF\r\n")

// halves are units that stand beside others of another kind.
var halves = []uint16{0, 31, 32, 'A', 126, 127, 0x20AC, 0xD7FF, 0xD800, 0xDBFF, 0xDC00, 0xDFFF, 0xE000, 0xFFFF}

// answers are what the calls tell of a name.
type answers struct {
	why, at, pieces int
	right           bool
	text            string
	err             api.Errno
}

func (a answers) String() string {
	return fmt.Sprintf("why %d, at %d, %d pieces, right %t, read %q, %d", a.why, a.at, a.pieces, a.right, a.text, a.err)
}

// told is what the calls answer of a name.
func told(s []byte) answers {
	why, at := Why(s)
	text, err := Read(s)
	return answers{why, at, Pieces(s), Right(s), string(text), err}
}

// oneByOne are octets as signs of the same numbers.
func oneByOne(s []byte) string {
	t := make([]rune, len(s))
	for i, c := range s {
		t[i] = rune(c)
	}
	return string(t)
}

// unitsOf are the whole units of digits' bits, by a row of bits, one by one, and whether nothing is left over that may not be.
func unitsOf(digits string) ([]uint16, bool) {
	var row strings.Builder
	for _, c := range digits {
		fmt.Fprintf(&row, "%06b", strings.IndexRune(alphabet, c))
	}
	bits := row.String()
	var units []uint16
	for len(bits) >= 16 {
		u, err := strconv.ParseUint(bits[:16], 2, 16)
		if err != nil {
			panic(err)
		}
		units, bits = append(units, uint16(u)), bits[16:]
	}
	return units, len(bits) < 6 && !strings.Contains(bits, "1")
}

// expectedRun is the text that is expected of a run's digits, and why such a run may not be.
func expectedRun(digits string) (string, int) {
	units, ok := unitsOf(digits)
	text := utf16.Decode(units)
	switch {
	// A surrogate that stands alone is laid as another unit.
	case !ok || len(text) == 0 || !slices.Equal(utf16.Encode(text), units):
		return "", Broken
	case plain.MatchString(string(text)):
		return "", Needless
	}
	return string(text), Fine
}

// expectedPiece is the text that is expected of a piece, and why it may not be.
func expectedPiece(whole, digits, end string, behindRun bool) (string, int) {
	switch {
	case whole == "&-":
		return "&", Fine
	case whole == "&":
		return "", Shift
	case digits == "" && itself.MatchString(whole):
		return whole, Fine
	case digits == "":
		return "", Octet
	case end == "":
		return "", Open
	}
	text, why := expectedRun(digits)
	if why == Fine && behindRun {
		why = Beside
	}
	return text, why
}

// expected is what is expected of a name.
func expected(s []byte) answers {
	var a answers
	behindRun := false
	for _, found := range onePiece.FindAllStringSubmatch(oneByOne(s), -1) {
		text, why := expectedPiece(found[0], found[1], found[2], behindRun)
		if why != Fine {
			return answers{why: why, at: a.at, pieces: a.pieces, err: api.ErrCanon}
		}
		a.at += len([]rune(found[0]))
		a.pieces++
		a.text += text
		behindRun = found[1] != ""
	}
	a.right = true
	return a
}

// check holds what the calls answer of a name against what is expected, and what follows.
func check(t *testing.T, s []byte) {
	t.Helper()
	got, want := told(s), expected(s)
	if got != want {
		t.Fatalf("of %q is told %v, want %v", s, got, want)
	}
	if laid, err := mseven.Lay(mseven.Read(s)); got.right != (err == api.OK && string(laid) == string(s)) {
		t.Fatalf("of %q is told %v, and layer 24 lays %q of what it reads of it", s, got, laid)
	}
	if Same(s, slices.Clone(s)) != got.right {
		t.Fatalf("of %q is told %v, and it is read as itself: %t", s, got, !got.right)
	}
	// What is ahead of the first piece that may not be is a name itself.
	if why, at := Why(s[:got.at]); why != Fine || at != got.at || Pieces(s[:got.at]) != got.pieces {
		t.Fatalf("of %q is told %v, and of what is ahead %d at %d", s, got, why, at)
	}
}

// library is layer 17's code as the library has it.
func library() *base64.Encoding {
	return base64.NewEncoding(alphabet).WithPadding(base64.NoPadding)
}

// codeOf are the digits of units.
func codeOf(units []uint16) string {
	var octets []byte
	for _, u := range units {
		octets = append(octets, byte(u>>8), byte(u))
	}
	return library().EncodeToString(octets)
}

// runOf is a run of these signs.
func runOf(t ...rune) string { return "&" + codeOf(utf16.Encode(t)) + "-" }

// every hands on all lists of these elements of so many of them.
func every[E any](of []E, many int, do func(s []E)) {
	s := make([]E, many)
	var from func(at int)
	from = func(at int) {
		if at == many {
			do(s)
			return
		}
		for _, c := range of {
			s[at] = c
			from(at + 1)
		}
	}
	from(0)
}

// allOctets are those from 0 to 255.
func allOctets() []byte {
	var s []byte
	for c := range 256 {
		s = append(s, byte(c))
	}
	return s
}

// someOf is a row of so many of these elements that has no short period.
func someOf[E any](of []E, many int) []E {
	s := make([]E, many)
	x := uint32(many) + 1
	for i := range s {
		x = x*1664525 + 1013904223
		s[i] = of[int(x>>16)%len(of)]
	}
	return s
}

// P25.1

func TestReasonsCount(t *testing.T) {
	for number, reason := range []int{Fine, Octet, Shift, Open, Broken, Needless, Beside} {
		if reason != number {
			t.Errorf("reason %d is %d", number, reason)
		}
	}
}

func TestWhyCases(t *testing.T) {
	cases := []struct {
		s               string
		why, at, pieces int
	}{
		{"&AGE-", Needless, 0, 0},
		{"", Fine, 0, 0}, {"a", Fine, 1, 1}, {"INBOX", Fine, 5, 5}, {"~peter/mail/&U,BTFw-/&ZeVnLIqe-", Fine, 31, 15}, {"~&U,A-&-", Fine, 8, 3}, {"+AOk-", Fine, 5, 5}, {"a-b,c", Fine, 5, 5},
		// An octet that is none from 32 to 126, wherever it stands.
		{"\x00", Octet, 0, 0}, {"\x1F", Octet, 0, 0}, {" ", Fine, 1, 1}, {"~", Fine, 1, 1}, {"\x7F", Octet, 0, 0}, {"\x80", Octet, 0, 0}, {"\xFF", Octet, 0, 0}, {"a\xE9", Octet, 1, 1}, {"\xC3\xA9", Octet, 0, 0}, {"\xA6-", Octet, 0, 0}, {"a\r\n", Octet, 1, 1}, {"&-\t", Octet, 2, 1}, {"&AOk-\x80", Octet, 5, 1}, {"ab\x80&", Octet, 2, 2},
		// An `&` without a digit or a `-` behind it: it is the piece, whatever stands behind.
		{"&", Shift, 0, 0}, {"a&", Shift, 1, 1}, {"&&-", Shift, 0, 0}, {"&&AOk-", Shift, 0, 0}, {"& ", Shift, 0, 0}, {"&/", Shift, 0, 0}, {"&//8-", Shift, 0, 0}, {"&=", Shift, 0, 0}, {"&\x80", Shift, 0, 0}, {"&\x00-", Shift, 0, 0}, {"&-&", Shift, 2, 1}, {"&AOk-&", Shift, 5, 1}, {"R&D", Open, 1, 1}, {"R& D", Shift, 1, 1}, {"&-", Fine, 2, 1}, {"&-&-", Fine, 4, 2}, {"&--", Fine, 3, 2}, {"&-AGE-", Fine, 6, 5},
		// Digits that no `-` is behind, though the run be broken, or needless, or stand behind another one.
		{"&AOk", Open, 0, 0}, {"&A", Open, 0, 0}, {"&,", Open, 0, 0}, {"&+", Open, 0, 0}, {"&AGE", Open, 0, 0}, {"&AGF", Open, 0, 0}, {"&AOk.", Open, 0, 0}, {"&AOk.-", Open, 0, 0}, {"&AOk=-", Open, 0, 0}, {"&AOk/-", Open, 0, 0}, {"&AOk&AOk-", Open, 0, 0}, {"&AOk\x80", Open, 0, 0}, {"&AOk\x00-", Open, 0, 0}, {"ab&AOk", Open, 2, 2}, {"&AOk-&AOk", Open, 5, 1}, {"&AOk-&A", Open, 5, 1}, {"&AOk-&AGE", Open, 5, 1},
		// What is left over of a run, and surrogates that stand alone.
		{"&A-", Broken, 0, 0}, {"&AA-", Broken, 0, 0}, {"&AAA-", Fine, 5, 1}, {"&,-", Broken, 0, 0}, {"&,,-", Broken, 0, 0}, {"&AOl-", Broken, 0, 0}, {"&AOm-", Broken, 0, 0}, {"&AOn-", Broken, 0, 0}, {"&AOo-", Fine, 5, 1}, {"&AOkA-", Broken, 0, 0}, {"&AOkAA-", Broken, 0, 0}, {"&AOkA6Q-", Fine, 8, 1}, {"&AOkA6R-", Broken, 0, 0}, {"&AOkA6Y-", Broken, 0, 0}, {"&AOkA6QA-", Broken, 0, 0}, {"&AOkA6QDp-", Fine, 10, 1}, {"&2D0-", Broken, 0, 0}, {"&3gA-", Broken, 0, 0}, {"&2D3eAA-", Fine, 8, 1}, {"&3gDYPQ-", Broken, 0, 0}, {"&2D0A6Q-", Broken, 0, 0}, {"&2D0-&3gA-", Broken, 0, 0}, {"&AOk-&2D0-", Broken, 5, 1}, {"a&A-", Broken, 1, 1},
		// A run that is broken is so, whatever signs it has.
		{"&AGF-", Broken, 0, 0}, {"&AGEA-", Broken, 0, 0}, {"&AGHYPQ-", Broken, 0, 0}, {"&AOk-&AGF-", Broken, 5, 1}, {"&AOk-&A-", Broken, 5, 1},
		// A sign from 32 to 126 in a run, the first one, the last one, or one in between.
		{"&AB8-", Fine, 5, 1}, {"&ACA-", Needless, 0, 0}, {"&ACY-", Needless, 0, 0}, {"&AC0-", Needless, 0, 0}, {"&AH4-", Needless, 0, 0}, {"&AH8-", Fine, 5, 1}, {runOf('a', 0xE9), Needless, 0, 0}, {runOf(0xE9, 'a'), Needless, 0, 0}, {runOf(0xE9, '&', 0xE9), Needless, 0, 0}, {runOf(0x1F600, '~'), Needless, 0, 0}, {"a&AGE-", Needless, 1, 1}, {"&AOk-&AGE-", Needless, 5, 1},
		// A run that another one is ahead of, and nothing between them.
		{"&AOk-&AOk-", Beside, 5, 1}, {"a&AOk-&AOk-a", Beside, 6, 2}, {"&AOk-&2D3eAA-", Beside, 5, 1}, {"&AAA-&AAA-", Beside, 5, 1}, {"&AOk-&AOk-&AOk-", Beside, 5, 1}, {"&AOk-&AOk-\x80", Beside, 5, 1}, {"&AOk-a&AOk-", Fine, 11, 3}, {"&AOk- &AOk-", Fine, 11, 3}, {"&AOk--&AOk-", Fine, 11, 3}, {"&AOk-&-&AOk-", Fine, 12, 3}, {"&-&AOk-", Fine, 7, 2}, {"&AOk-&-", Fine, 7, 2}, {"a&AOk-b&AOk-&AOk-", Beside, 12, 4},
		// Controls and what stands for what can't be read are signs of runs as others are.
		{"&AAk-", Fine, 5, 1}, {"&AA0ACg-", Fine, 8, 1}, {"&,,0-", Fine, 5, 1}, {"&,,8-", Fine, 5, 1}, {"&2,,f,w-", Fine, 8, 1}, {"&+,8-", Fine, 5, 1},
		// The first piece that may not be is told, whatever others there are.
		{"&AGE-\x80&", Needless, 0, 0}, {"\x80&AGE-", Octet, 0, 0}, {"& \x80", Shift, 0, 0}, {"a&AOl-&AGE-", Broken, 1, 1},
	}
	for _, x := range cases {
		s := []byte(x.s)
		if why, at := Why(s); why != x.why || at != x.at {
			t.Errorf("Why(%q) = %d, %d, want %d, %d", x.s, why, at, x.why, x.at)
		}
		if got := Pieces(s); got != x.pieces {
			t.Errorf("Pieces(%q) = %d, want %d", x.s, got, x.pieces)
		}
		if got := Right(s); got != (x.why == Fine) {
			t.Errorf("Right(%q) = %t", x.s, got)
		}
		check(t, s)
	}
}

// Of a piece that may not be for one reason and another, the first one is told.
func TestReasonsInOrder(t *testing.T) {
	// Behind a run, so that Beside would hold of each.
	cases := []struct {
		piece string
		why   int
	}{{"\x80", Octet}, {"&", Shift}, {"&/", Shift}, {"&AGF", Open}, {"&AGE", Open}, {"&AOk", Open}, {"&A", Open}, {"&AGF-", Broken}, {"&AOl-", Broken}, {"&AGE-", Needless}, {"&AOk-", Beside}}
	for _, x := range cases {
		for _, behind := range []string{"", "\x80", " ", "&", "&AOk-", "."} {
			s := []byte("a&AOk-" + x.piece + behind)
			if why, at := Why(s); why != x.why || at != 6 || Pieces(s) != 2 {
				t.Errorf("Why(%q) = %d, %d, want %d, 6", s, why, at, x.why)
			}
			check(t, s)
		}
	}
}

func TestEveryTwoAndThreeOctets(t *testing.T) {
	for many := range 3 {
		every(allOctets(), many, func(s []byte) { check(t, s) })
	}
	every(octetEdges, 3, func(s []byte) { check(t, s) })
}

// Each octet behind an `&`, in a run, behind its digits, and behind its end.
func TestEveryOctetAtEachPlace(t *testing.T) {
	for _, right := range []string{"a&-b", "&AOk-", "a&AOk-.&2D3eAA--", "~&U,A-&-", "&AOk-&-&AOk-"} {
		for at := range len(right) + 1 {
			for _, c := range allOctets() {
				check(t, []byte(right[:at]+string([]byte{c})+right[at:]))
				if at < len(right) {
					check(t, []byte(right[:at]+string([]byte{c})+right[at+1:]))
				}
			}
			check(t, []byte(right[:at]))
			check(t, []byte(right[at:]))
		}
	}
}

func TestEveryShortList(t *testing.T) {
	for many := range 8 {
		every([]byte("A&-."), many, func(s []byte) { check(t, s) })
	}
	for many := range 6 {
		every([]byte("Q,&-/\xE9"), many, func(s []byte) { check(t, s) })
	}
	for many := range 9 {
		every([]byte("AQ3"), many, func(s []byte) { check(t, []byte("&"+string(s)+"-")) })
	}
	pieces := []string{"&", "-", "AOk", "AOl", "AGE", "2D0", "3gA", "A", ".", "\xFF"}
	for many := range 5 {
		every(pieces, many, func(s []string) { check(t, []byte(strings.Join(s, ""))) })
	}
	// Pieces that are whole, of each reason, one behind the other.
	pieces = []string{"a", "&-", "&AOk-", "&2D3eAA-", "&AGE-", "&AOl-", "&AOk", "& ", "\x80"}
	for many := range 6 {
		every(pieces, many, func(s []string) { check(t, []byte(strings.Join(s, ""))) })
	}
}

// Each unit alone, and with each number in the bits that are left over.
func TestEveryUnit(t *testing.T) {
	for u := range 1 << 16 {
		right := codeOf([]uint16{uint16(u)})
		last := strings.IndexByte(alphabet, right[2])
		for over := range 4 {
			s := []byte{'&', right[0], right[1], alphabet[last+over], '-'}
			want, wantAt := Fine, 5
			switch {
			case over > 0 || 0xD800 <= u && u <= 0xDFFF:
				want, wantAt = Broken, 0
			case 32 <= u && u <= 126:
				want, wantAt = Needless, 0
			}
			if why, at := Why(s); why != want || at != wantAt {
				t.Fatalf("of the unit %X, with %d left over, Why tells %d, %d, want %d", u, over, why, at, want)
			}
		}
	}
}

func TestRunsOfUnits(t *testing.T) {
	for many := range 4 {
		every(halves, many, func(u []uint16) {
			d := codeOf(u)
			for _, behind := range []string{"", "-", "A-", "B-", "AB-"} {
				check(t, []byte("&"+d+behind))
			}
		})
	}
}

func TestLongerLists(t *testing.T) {
	kinds := []string{"a", "&-", "A&-", "AQ&-.", "\x80&A", alphabet, alphabet + "-", alphabet + "-&&&", string(allOctets()), string(octetEdges)}
	for _, of := range kinds {
		for many := range 200 {
			s := someOf([]byte(of), many)
			check(t, s)
			check(t, []byte("&"+string(s)+"-"))
		}
	}
	// Rows of pieces that may be, where a run is behind another one now and then.
	pieces := []string{"a", "-", "&-", ".", "&AOk-", "~", "A", "&2D3eAA-", ","}
	for many := range 300 {
		check(t, []byte(strings.Join(someOf(pieces, many), "")))
	}
}

// Very many octets are told of in a time that grows with them.
func TestVeryLongLists(t *testing.T) {
	many := 3 << 17
	cases := []struct {
		of, behind      string
		why, at, pieces int
	}{
		{"a", "", Fine, many, many}, {"&-", "", Fine, 2 * many, many}, {"&AOk-.", "", Fine, 6 * many, 2 * many}, {"a", "\x80", Octet, many, many}, {"&AOk-a", "&", Shift, 6 * many, 2 * many}, {"&AOk-&-", "&AOk-&AOk-", Beside, 7*many + 5, 2*many + 1}, {"&AOk-", "", Beside, 5, 1}, {"&", "", Shift, 0, 0}, {"&A", "", Open, 0, 0}, {"\x80", "", Octet, 0, 0},
	}
	for _, x := range cases {
		s := []byte(strings.Repeat(x.of, many) + x.behind)
		if why, at := Why(s); why != x.why || at != x.at || Pieces(s) != x.pieces {
			t.Errorf("of %q, %d times, is told %d, %d, %d pieces", x.of, many, why, at, Pieces(s))
		}
	}
	run := "&" + strings.Repeat("2D3eAADp", many)
	for _, x := range []struct {
		end string
		why int
	}{{"-", Fine}, {"", Open}, {"A-", Broken}, {"AGE-", Needless}} {
		if why, _ := Why([]byte(run + x.end)); why != x.why {
			t.Errorf("of a very long run that ends with %q is told %d", x.end, why)
		}
	}
	if got, err := Read([]byte(run + "-")); string(got) != strings.Repeat("\U0001F600\u00E9", many) || err != api.OK {
		t.Error("a very long run is read otherwise")
	}
}

// P25.2

func TestReadCases(t *testing.T) {
	cases := []struct{ s, want string }{
		{"", ""}, {"a", "a"}, {"INBOX", "INBOX"}, {"&-", "&"}, {"&--", "&-"}, {"a&-b", "a&b"}, {"&-AGE-", "&AGE-"}, {"&AOk-", "\u00E9"}, {"~&U,A-&-", "~\u53F0&"}, {"~peter/mail/&U,BTFw-/&ZeVnLIqe-", "~peter/mail/\u53F0\u5317/\u65E5\u672C\u8A9E"}, {"&2D3eAA-", "\U0001F600"}, {"&AAAACQANAAo-", "\x00\t\r\n"}, {"&,,0-", "\uFFFD"}, {"&AOk--&AOk-", "\u00E9-\u00E9"}, {" !\"#$%'()*+,-./:;<=>?@[\\]^_`{|}~", " !\"#$%'()*+,-./:;<=>?@[\\]^_`{|}~"},
	}
	for _, x := range cases {
		if got, err := Read([]byte(x.s)); string(got) != x.want || err != api.OK {
			t.Errorf("Read(%q) = %q, %d, want %q", x.s, string(got), err, x.want)
		}
	}
	for _, s := range []string{"\x80", "a\x80", "\n", "&", "a&", "& ", "&AOk", "aaa&AOk", "&A-", "&AOl-", "&2D0-", "&AGE-", "a&ACY-", "&AOk-&AOk-", "a&AOk-b&AOk-&AOk-c"} {
		if got, err := Read([]byte(s)); got != nil || err != api.ErrCanon {
			t.Errorf("Read(%q) = %q, %d", s, string(got), err)
		}
	}
}

func TestSameCases(t *testing.T) {
	cases := []struct {
		a, b string
		want bool
	}{
		{"", "", true}, {"a", "a", true}, {"&AOk-", "&AOk-", true}, {"~&U,A-&-", "~&U,A-&-", true}, {"&-", "&-", true},
		// Names are told apart by every octet, small letters from capital ones, too.
		{"a", "A", false}, {"INBOX", "inbox", false}, {"a", "", false}, {"a", "ab", false}, {"ab", "a", false}, {"&AOk-", "&AOkA6Q-", false}, {"&-", "-", false}, {"&AOk-", "&AOo-", false}, {"&,,0-", "&,,8-", false},
		// What is not right is the same as nothing, though it be read as the same, or be the same octets.
		{"a", "&AGE-", false}, {"&AGE-", "a", false}, {"&AGE-", "&AGE-", false}, {"&AOk", "&AOk-", false}, {"&AOk-", "&AOk", false}, {"&AOk", "&AOk", false}, {"&AOk-&AOk-", "&AOkA6Q-", false}, {"&AOkA6Q-", "&AOk-&AOk-", false}, {"&ACY-", "&-", false}, {"\x80", "\x80", false}, {"\x80", "&,,0-", false}, {"&,,0-", "\x80", false}, {"&", "&", false}, {"\x80", "\x81", false}, {"", "\x80", false}, {"&A-", "&A-", false},
	}
	for _, x := range cases {
		if got := Same([]byte(x.a), []byte(x.b)); got != x.want {
			t.Errorf("Same(%q, %q) = %t", x.a, x.b, got)
		}
	}
}

// Each two of many names, by what is expected of each.
func TestSameOfEachTwo(t *testing.T) {
	var names [][]byte
	pieces := []string{"a", "&-", "&AOk-", "&AGE-", "&AOkA6Q-", "&AOk", "\x80"}
	for many := range 4 {
		every(pieces, many, func(s []string) { names = append(names, []byte(strings.Join(s, ""))) })
	}
	var of []answers
	for _, s := range names {
		of = append(of, expected(s))
	}
	for i, a := range names {
		for j, b := range names {
			want := of[i].right && of[j].right && of[i].text == of[j].text
			if got := Same(a, b); got != want {
				t.Fatalf("Same(%q, %q) = %t", a, b, got)
			}
		}
	}
}

// P25.3: check asks it of all that it is handed; here what layer 24 lays is right, and is read as what was laid.

func TestWhatIsLaidIsRight(t *testing.T) {
	texts := [][]rune{someOf(signEdges, 500), []rune("a&\u00E9"), []rune("\u00E9&\u00E9-&AGE-"), nil}
	for many := range 4 {
		every(signEdges, many, func(text []rune) { texts = append(texts, slices.Clone(text)) })
	}
	for _, text := range texts {
		laid, _ := mseven.Lay(text)
		if why, at := Why(laid); why != Fine || at != len(laid) {
			t.Fatalf("%X is laid as %q, of which is told %d at %d", text, laid, why, at)
		}
		if got, err := Read(laid); !slices.Equal(got, text) || err != api.OK {
			t.Fatalf("%X is laid as %q, and read as %X, %d", text, laid, got, err)
		}
	}
}

func TestEverySignIsLaidRightly(t *testing.T) {
	for c := rune(0); c <= 0x10FFFF; c++ {
		if 0xD800 <= c && c <= 0xDFFF {
			continue
		}
		laid, _ := mseven.Lay([]rune{c})
		got, err := Read(laid)
		if len(got) != 1 || got[0] != c || err != api.OK || Pieces(laid) != 1 {
			t.Fatalf("%X is laid as %q, and read as %X, %d", c, laid, got, err)
		}
		// The same sign in a run that it needs, or needs not.
		why, _ := Why([]byte(runOf(c)))
		if needs := c < 32 || c > 126; needs != (why == Fine) {
			t.Fatalf("of %X in a run is told %d", c, why)
		}
	}
}
