package octet

import (
	"bytes"
	"math"
	"testing"
)

// every is all that the document knows as a kind.
const every = 1 + 2 + 4 + 8 + 16 + 32 + 64 + 128 + 256 + 512

// stretch is the text of all octets from one to another.
func stretch(from, to int) string {
	var s []byte
	for c := from; c <= to; c++ {
		s = append(s, byte(c))
	}
	return string(s)
}

// members writes out which octets the document counts to each kind.
func members() map[int]string {
	digits, letters := stretch(48, 57), stretch(65, 90)+stretch(97, 122)
	return map[int]string{
		1:   stretch(0, 31) + "\x7f",
		2:   " \t",
		4:   stretch(33, 126),
		8:   digits,
		16:  letters,
		32:  `()<>@,;:\"/[]?=`,
		64:  digits + letters + "!#$%&'*+-.^_`{|}~",
		128: digits + letters + "!*+-/",
		256: digits + letters + "!#$&+-.^_`{|}~",
		512: digits + letters + "+/",
	}
}

// wanted is the sum of the kinds that members has for an octet.
func wanted(c byte) int {
	sum := 0
	for kind, text := range members() {
		if bytes.IndexByte([]byte(text), c) >= 0 {
			sum += kind
		}
	}
	return sum
}

func allOctets() []byte { return []byte(stretch(0, 255)) }

// writeOver fills a list to its capacity, so that memory that is shared shows.
func writeOver(s []byte) {
	s = s[:cap(s)]
	for i := range s {
		s[i] = 'X'
	}
}

func TestNumbersOfKinds(t *testing.T) {
	got := []int{Control, Blank, Printable, Digit, Letter, Special, Token, Word, Attribute, Base}
	want := []int{1, 2, 4, 8, 16, 32, 64, 128, 256, 512}
	for i := range want {
		if got[i] != want[i] {
			t.Errorf("kind %d is %d, want %d", i, got[i], want[i])
		}
	}
}

// P1.1

func TestKindsOfAllOctets(t *testing.T) {
	for _, c := range allOctets() {
		if got, want := Kinds(c), wanted(c); got != want {
			t.Errorf("Kinds(%d) = %d, want %d", c, got, want)
		}
	}
}

func TestKindsAtEdges(t *testing.T) {
	const plain = Printable + Token + Attribute
	const digit = plain + Digit + Word + Base
	const letter = plain + Letter + Word + Base
	edges := map[byte]int{
		0: Control, 8: Control, 9: Control + Blank, 10: Control, 13: Control, 31: Control,
		32: Blank, 33: plain + Word, 126: plain, 127: Control, 128: 0, 160: 0, 255: 0,
		47: Printable + Special + Word + Base, 48: digit, 57: digit, 58: Printable + Special,
		64: Printable + Special, 65: letter, 90: letter, 91: Printable + Special,
		96: plain, 97: letter, 122: letter, 123: plain,
		'*': Printable + Token + Word, '\'': Printable + Token, '%': Printable + Token,
		'+': plain + Word + Base, '-': plain + Word, '_': plain, '.': plain,
		'=': Printable + Special, '?': Printable + Special, '"': Printable + Special, '\\': Printable + Special,
	}
	for c, want := range edges {
		if got := Kinds(c); got != want {
			t.Errorf("Kinds(%d) = %d, want %d", c, got, want)
		}
	}
}

func TestIsOfEachKind(t *testing.T) {
	for kind, text := range members() {
		for _, c := range allOctets() {
			want := bytes.IndexByte([]byte(text), c) >= 0
			if got := Is(c, kind); got != want {
				t.Errorf("Is(%d, %d) = %v", c, kind, got)
			}
		}
	}
}

func TestIsOfAnySum(t *testing.T) {
	for c := range 256 {
		own := wanted(byte(c))
		for kinds := range every + 1 {
			if got := Is(byte(c), kinds); got != (own&kinds != 0) {
				t.Fatalf("Is(%d, %d) = %v", c, kinds, got)
			}
		}
	}
}

func TestNumbersOfNoKind(t *testing.T) {
	for _, kinds := range []int{0, 1024, 1 << 20, math.MinInt, math.MaxInt &^ every, -1 &^ every} {
		for _, c := range allOctets() {
			if Is(c, kinds) {
				t.Errorf("Is(%d, %d)", c, kinds)
			}
		}
		if All([]byte("a"), kinds) {
			t.Errorf("All of a letter is of %d", kinds)
		}
		if n := Count(allOctets(), kinds); n != 0 {
			t.Errorf("Count of %d is %d", kinds, n)
		}
	}
	if !Is('A', 1024+Letter) || Is('1', 1024+Letter) {
		t.Error("a number of no kind beside a kind turns the answer")
	}
}

func TestAll(t *testing.T) {
	cases := []struct {
		s     string
		kinds int
		want  bool
	}{
		{"abcXYZ", Letter, true},
		{"abc1", Letter, false},
		{"1abc", Letter, false},
		{"a1b", Letter, false},
		{"abc1", Letter + Digit, true},
		{"abc 1", Letter + Digit, false},
		{"abc 1", Letter + Digit + Blank, true},
		{" \t ", Blank, true},
		{" \t ", Control, false},
		{"\t\t", Control, true},
		{"\r\n\x00\x7f", Control, true},
		{"text/plain", Token, false},
		{"text", Token, true},
		{"a*b", Token, true},
		{"a*b", Attribute, false},
		{"AZaz09+/", Base, true},
		{"AZaz09+/=", Base, false},
		{"a\x80", every, false},
		{"\xff", every, false},
		{"a", 0, false},
	}
	for _, x := range cases {
		if got := All([]byte(x.s), x.kinds); got != x.want {
			t.Errorf("All(%q, %d) = %v", x.s, x.kinds, got)
		}
	}
}

func TestAllOfNothing(t *testing.T) {
	for _, kinds := range []int{0, Letter, every, 1024, -1} {
		if !All(nil, kinds) || !All([]byte{}, kinds) {
			t.Errorf("All of nothing is not of %d", kinds)
		}
	}
}

func TestCount(t *testing.T) {
	for kind, text := range members() {
		if n := Count(allOctets(), kind); n != len(text) {
			t.Errorf("Count of %d is %d, want %d", kind, n, len(text))
		}
	}
	cases := []struct {
		s     string
		kinds int
		want  int
	}{
		{"a1 b2\t", Letter, 2},
		{"a1 b2\t", Letter + Digit, 4},
		{"a1 b2\t", Blank, 2},
		{"a1 b2\t", Control, 1},
		{"a1 b2\t", Blank + Control, 2},
		{"aaaa", Letter + Token + Printable, 4},
		{"\x80\xff", every, 0},
		{"", every, 0},
	}
	for _, x := range cases {
		if got := Count([]byte(x.s), x.kinds); got != x.want {
			t.Errorf("Count(%q, %d) = %d, want %d", x.s, x.kinds, got, x.want)
		}
	}
	if Count(nil, every) != 0 {
		t.Error("there are some in nothing")
	}
}

// P1.2

func TestLower(t *testing.T) {
	for c := range 256 {
		want := c
		if c >= 65 && c <= 90 {
			want = c + 32
		}
		if got := Lower(byte(c)); int(got) != want {
			t.Errorf("Lower(%d) = %d, want %d", c, got, want)
		}
	}
}

func TestFold(t *testing.T) {
	cases := []struct{ s, want string }{
		{"", ""},
		{"ISO-8859-1", "iso-8859-1"},
		{"AZaz09", "azaz09"},
		{"@[`{", "@[`{"},
		{" \tX\r\n", " \tx\r\n"},
		{"\xc0\xde\xe0", "\xc0\xde\xe0"},
	}
	for _, x := range cases {
		if got := Fold([]byte(x.s)); string(got) != x.want {
			t.Errorf("Fold(%q) = %q, want %q", x.s, got, x.want)
		}
	}
	if len(Fold(nil)) != 0 {
		t.Error("nothing is folded to something")
	}
}

func TestSame(t *testing.T) {
	cases := []struct {
		a, b string
		want bool
	}{
		{"", "", true},
		{"utf-8", "UTF-8", true},
		{"Utf-8", "uTF-8", true},
		{"utf-8", "utf-7", false},
		{"utf-8", "utf-88", false},
		{"utf-88", "utf-8", false},
		{"", "a", false},
		{"a", "", false},
		{"ab", "ba", false},
		{"@", "`", false},
		{"[", "{", false},
		{"\xc0", "\xe0", false},
		{"\x00", " ", false},
		{"a", "a ", false},
	}
	for _, x := range cases {
		if got := Same([]byte(x.a), []byte(x.b)); got != x.want {
			t.Errorf("Same(%q, %q) = %v", x.a, x.b, got)
		}
	}
	if !Same(nil, []byte{}) || !Same([]byte{}, nil) || !Same(nil, nil) {
		t.Error("nil and empty are not the same")
	}
	if Same(nil, []byte("a")) || Same([]byte("a"), nil) {
		t.Error("nothing and something are the same")
	}
}

func TestSameIsFoldedAlike(t *testing.T) {
	for a := range 256 {
		for b := range 256 {
			x, y := []byte{'k', byte(a)}, []byte{'K', byte(b)}
			if Same(x, y) != bytes.Equal(Fold(x), Fold(y)) {
				t.Fatalf("Same of %d and %d is not as Fold has them", a, b)
			}
		}
	}
}

func TestTrim(t *testing.T) {
	cases := []struct{ s, want string }{
		{"", ""},
		{" ", ""},
		{"\t", ""},
		{" \t \t\t ", ""},
		{"a", "a"},
		{" a", "a"},
		{"a ", "a"},
		{"\t a b \t", "a b"},
		{"a \t b", "a \t b"},
		{" \r\n ", "\r\n"},
		{"\n a", "\n a"},
		{" \x00 ", "\x00"},
		{" \x7f", "\x7f"},
		{" \xa0 ", "\xa0"},
		{"\x0b\x0c", "\x0b\x0c"},
	}
	for _, x := range cases {
		if got := Trim([]byte(x.s)); string(got) != x.want {
			t.Errorf("Trim(%q) = %q, want %q", x.s, got, x.want)
		}
	}
	if len(Trim(nil)) != 0 {
		t.Error("nothing is trimmed to something")
	}
}

func TestTrimTakesBlanksAlone(t *testing.T) {
	for c := range 256 {
		want := []byte{byte(c), 'a', byte(c)}
		if c == 32 || c == 9 {
			want = []byte("a")
		}
		if got := Trim([]byte{byte(c), 'a', byte(c)}); !bytes.Equal(got, want) {
			t.Errorf("Trim with %d at the ends is %q", c, got)
		}
	}
}

// P1.3

func TestFoldedIsFoldedToItself(t *testing.T) {
	once := Fold(allOctets())
	if twice := Fold(once); !bytes.Equal(once, twice) {
		t.Errorf("%q is folded to %q", once, twice)
	}
	for i, c := range allOctets() {
		if once[i] != Lower(c) || Lower(once[i]) != once[i] {
			t.Errorf("%d is folded to %d", c, once[i])
		}
	}
	if n := bytes.IndexAny(once, "ABCDEFGHIJKLMNOPQRSTUVWXYZ"); n >= 0 {
		t.Errorf("a great letter is left at %d", n)
	}
}

// P1.4

func TestPrintableIsSpecialOrToken(t *testing.T) {
	for c := range 256 {
		special, token := Is(byte(c), Special), Is(byte(c), Token)
		if printable := c >= 33 && c <= 126; printable != (special != token) {
			t.Errorf("%d: special %v, token's %v", c, special, token)
		}
		if special && token {
			t.Errorf("%d is both", c)
		}
	}
}

// R4

func TestArgumentsAreLeft(t *testing.T) {
	const text = " \tAbC dEf\t "
	s, other := []byte(text), []byte(text)
	Fold(s)
	Trim(s)
	Same(s, other)
	All(s, every)
	Count(s, Letter)
	if string(s) != text || string(other) != text {
		t.Errorf("%q, %q are left", s, other)
	}
}

func TestAnswersShareNothing(t *testing.T) {
	calls := map[string]func([]byte) []byte{"Fold": Fold, "Trim": Trim}
	for name, call := range calls {
		for _, text := range []string{"", " ", "a", "abc", " Abc", "Abc ", "\t Abc \t"} {
			s := append(make([]byte, 0, 64), text...)
			answer := call(s)
			writeOver(answer)
			if string(s) != text {
				t.Errorf("%s(%q): writing into the answer leaves %q", name, text, s)
			}
			answer = call(s)
			before := string(answer)
			again := call(s)
			writeOver(s)
			writeOver(again)
			if string(answer) != before {
				t.Errorf("%s(%q): the answer %q turns to %q", name, text, before, answer)
			}
		}
	}
}

func TestSpareCapacityTurnsNothing(t *testing.T) {
	spare := []byte(" Ab \t AAAA")[:4]
	if got := Trim(spare); string(got) != "Ab" {
		t.Errorf("Trim is %q", got)
	}
	if got := Fold(spare); string(got) != " ab " {
		t.Errorf("Fold is %q", got)
	}
	if Count(spare, Letter) != 2 || All(spare, Letter) || !Same(spare, []byte(" aB ")) {
		t.Error("what lies behind the end is counted")
	}
}
