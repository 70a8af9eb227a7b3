package hexa

import (
	"bytes"
	"math"
	"testing"

	"sheave/api"
)

// capitals and smalls write out the digits, each at its number.
const (
	capitals = "0123456789ABCDEF"
	smalls   = "0123456789abcdef"
)

// number is a digit's number as the document has it, or -1 of none.
func number(c byte) int {
	switch {
	case c >= 48 && c <= 57:
		return int(c) - 48
	case c >= 65 && c <= 70:
		return int(c) - 65 + 10
	case c >= 97 && c <= 102:
		return int(c) - 97 + 10
	}
	return -1
}

func allOctets() []byte {
	s := make([]byte, 256)
	for c := range s {
		s[c] = byte(c)
	}
	return s
}

// writeOver fills a list to its capacity, so that memory that is shared shows.
func writeOver(s []byte) {
	s = s[:cap(s)]
	for i := range s {
		s[i] = 'X'
	}
}

// roomy is a list with room behind its end.
func roomy(text string) []byte { return append(make([]byte, 0, 64), text...) }

// room is what lies in that room.
func room(s []byte) []byte { return s[len(s):cap(s)] }

// P2.1

func TestDigit(t *testing.T) {
	for n := range 16 {
		if got := Digit(n); got != capitals[n] {
			t.Errorf("Digit(%d) = %q, want %q", n, got, capitals[n])
		}
	}
}

func TestDigitOfAnyNumber(t *testing.T) {
	cases := []struct {
		n    int
		want byte
	}{
		{16, '0'}, {17, '1'}, {31, 'F'}, {32, '0'}, {255, 'F'}, {256, '0'}, {0xABC, 'C'},
		{-1, 'F'}, {-2, 'E'}, {-10, '6'}, {-15, '1'}, {-16, '0'}, {-17, 'F'},
		{math.MaxInt, 'F'}, {math.MaxInt - 1, 'E'}, {math.MinInt, '0'}, {math.MinInt + 1, '1'},
		{math.MaxInt32, 'F'}, {math.MinInt32, '0'}, {math.MaxInt32 + 1, '0'}, {math.MinInt32 - 1, 'F'},
	}
	for _, x := range cases {
		if got := Digit(x.n); got != x.want {
			t.Errorf("Digit(%d) = %q, want %q", x.n, got, x.want)
		}
	}
	for n := -1000; n <= 1000; n++ {
		want := capitals[((n%16)+16)%16]
		if got := Digit(n); got != want {
			t.Errorf("Digit(%d) = %q, want %q", n, got, want)
		}
	}
}

func TestValueOfAllOctets(t *testing.T) {
	for _, c := range allOctets() {
		n, ok := Value(c)
		want := number(c)
		if ok != (want >= 0) || ok && n != want || !ok && n != 0 {
			t.Errorf("Value(%d) = %d, %v, want %d", c, n, ok, want)
		}
	}
}

func TestValueAtEdges(t *testing.T) {
	cases := []struct {
		c  byte
		n  int
		ok bool
	}{
		{'0', 0, true}, {'9', 9, true}, {'A', 10, true}, {'F', 15, true}, {'a', 10, true}, {'f', 15, true},
		{'/', 0, false}, {':', 0, false}, {'@', 0, false}, {'G', 0, false}, {'`', 0, false}, {'g', 0, false},
		{0, 0, false}, {10, 0, false}, {16, 0, false}, {' ', 0, false}, {'Z', 0, false}, {'z', 0, false},
		{128 + '0', 0, false}, {128 + 'A', 0, false}, {255, 0, false},
	}
	for _, x := range cases {
		if n, ok := Value(x.c); n != x.n || ok != x.ok {
			t.Errorf("Value(%q) = %d, %v, want %d, %v", x.c, n, ok, x.n, x.ok)
		}
	}
}

func TestDigitsHaveTheirValues(t *testing.T) {
	for n := range 16 {
		if got, ok := Value(Digit(n)); got != n || !ok {
			t.Errorf("Value(Digit(%d)) = %d, %v", n, got, ok)
		}
		if got, ok := Value(smalls[n]); got != n || !ok {
			t.Errorf("Value(%q) = %d, %v", smalls[n], got, ok)
		}
	}
}

func TestPut(t *testing.T) {
	cases := []struct {
		b       string
		sign, c byte
		want    string
	}{
		{"", '=', 10, "=0A"},
		{"", '=', 0xE9, "=E9"},
		{"", '%', 0x20, "%20"},
		{"", '=', '=', "=3D"},
		{"", '=', 0, "=00"},
		{"", '=', 255, "=FF"},
		{"", '=', 0x0F, "=0F"},
		{"", '=', 0xF0, "=F0"},
		{"ab", '=', 0x5C, "ab=5C"},
		{"=0A", '=', 0xAF, "=0A=AF"},
		{"=", '=', 1, "==01"},
		{"\x00\xff", '%', 0xC3, "\x00\xff%C3"},
		{"x", 0, 0x12, "x\x0012"},
		{"x", 0xFF, 0x12, "x\xff12"},
		{"x", 'A', 0xBC, "xABC"},
	}
	for _, x := range cases {
		if got := Put([]byte(x.b), x.sign, x.c); string(got) != x.want {
			t.Errorf("Put(%q, %q, %d) = %q, want %q", x.b, x.sign, x.c, got, x.want)
		}
	}
	if got := Put(nil, '=', 10); string(got) != "=0A" {
		t.Errorf("Put behind nil is %q", got)
	}
}

func TestPutOfAllOctets(t *testing.T) {
	for _, sign := range allOctets() {
		for _, c := range allOctets() {
			want := []byte{'b', sign, capitals[c/16], capitals[c%16]}
			if got := Put([]byte("b"), sign, c); !bytes.Equal(got, want) {
				t.Fatalf("Put(b, %d, %d) = %q, want %q", sign, c, got, want)
			}
		}
	}
}

func TestTake(t *testing.T) {
	cases := []struct {
		s    string
		at   int
		sign byte
		c    byte
		ok   bool
	}{
		{"=0A", 0, '=', 10, true},
		{"=0a", 0, '=', 10, true},
		{"=eE", 0, '=', 0xEE, true},
		{"=E9", 0, '=', 0xE9, true},
		{"=00", 0, '=', 0, true},
		{"=ff", 0, '=', 255, true},
		{"=0F", 0, '=', 0x0F, true},
		{"=F0", 0, '=', 0xF0, true},
		{"a=41b", 1, '=', 0x41, true},
		{"a=41b", 0, '=', 0, false},
		{"a=41b", 2, '=', 0, false},
		{"a=41", 1, '=', 0x41, true},
		{"==41", 0, '=', 0, false},
		{"==41", 1, '=', 0x41, true},
		{"%C3%A9", 3, '%', 0xA9, true},
		{"%C3%A9", 0, '%', 0xC3, true},
		{"%C3", 0, '=', 0, false},
		{"=C3", 0, '%', 0, false},
		{"=4", 0, '=', 0, false},
		{"=", 0, '=', 0, false},
		{"a=4", 1, '=', 0, false},
		{"a=", 1, '=', 0, false},
		{"=4g", 0, '=', 0, false},
		{"=G4", 0, '=', 0, false},
		{"=4 ", 0, '=', 0, false},
		{"= 4", 0, '=', 0, false},
		{"=\r\n", 0, '=', 0, false},
		{"=4=", 0, '=', 0, false},
		{"", 0, '=', 0, false},
		{"=41", 1, '=', 0, false},
		{"=41", 3, '=', 0, false},
		{"=41", 4, '=', 0, false},
		{"=41", -1, '=', 0, false},
		{"=41=41", -3, '=', 0, false},
		{"=41", math.MaxInt, '=', 0, false},
		{"=41", math.MaxInt - 1, '=', 0, false},
		{"=41", math.MaxInt - 2, '=', 0, false},
		{"=41", math.MinInt, '=', 0, false},
		{"", math.MinInt, '=', 0, false},
		{"ABC", 0, 'A', 0xBC, true},
		{"ABC", 0, 'a', 0, false},
		{"\x0041", 0, 0, 0x41, true},
		{"\xff41", 0, 0xFF, 0x41, true},
	}
	for _, x := range cases {
		if c, ok := Take([]byte(x.s), x.at, x.sign); c != x.c || ok != x.ok {
			t.Errorf("Take(%q, %d, %q) = %d, %v, want %d, %v", x.s, x.at, x.sign, c, ok, x.c, x.ok)
		}
	}
	for _, at := range []int{math.MinInt, -1, 0, 1, math.MaxInt} {
		if c, ok := Take(nil, at, '='); c != 0 || ok {
			t.Errorf("Take of nil at %d is %d, %v", at, c, ok)
		}
	}
}

func TestTakeOfAllPairs(t *testing.T) {
	for _, high := range allOctets() {
		for _, low := range allOctets() {
			c, ok := Take([]byte{'x', '=', high, low}, 1, '=')
			h, l := number(high), number(low)
			want, right := 0, h >= 0 && l >= 0
			if right {
				want = 16*h + l
			}
			if int(c) != want || ok != right {
				t.Fatalf("Take of %d and %d is %d, %v, want %d, %v", high, low, c, ok, want, right)
			}
		}
	}
}

func TestTakeAsksForTheSign(t *testing.T) {
	for _, sign := range allOctets() {
		for _, other := range allOctets() {
			c, ok := Take([]byte{other, '4', '1'}, 0, sign)
			if ok != (sign == other) || ok && c != 0x41 || !ok && c != 0 {
				t.Fatalf("Take of %d behind %d is %d, %v", sign, other, c, ok)
			}
		}
	}
}

func TestWhatIsPutIsTaken(t *testing.T) {
	for _, sign := range allOctets() {
		for _, c := range allOctets() {
			b := Put([]byte("before"), sign, c)
			if got, ok := Take(b, len("before"), sign); got != c || !ok {
				t.Fatalf("%q is taken as %d, %v, want %d", b, got, ok, c)
			}
		}
	}
}

// P2.2

func TestLay(t *testing.T) {
	cases := []struct{ s, want string }{
		{"", ""},
		{"\x00", "00"},
		{"\n", "0A"},
		{"\xff", "FF"},
		{"\x0f\xf0", "0FF0"},
		{"Az", "417A"},
		{"\xc3\xa9", "C3A9"},
		{"\xde\xad\xbe\xef", "DEADBEEF"},
	}
	for _, x := range cases {
		if got := Lay([]byte(x.s)); string(got) != x.want {
			t.Errorf("Lay(%q) = %q, want %q", x.s, got, x.want)
		}
	}
	if len(Lay(nil)) != 0 {
		t.Error("nothing is laid as something")
	}
}

func TestLayOfAllOctets(t *testing.T) {
	var want []byte
	for _, c := range allOctets() {
		want = append(want, capitals[c/16], capitals[c%16])
	}
	if got := Lay(allOctets()); !bytes.Equal(got, want) {
		t.Errorf("all octets are laid as %q", got)
	}
}

func TestRead(t *testing.T) {
	cases := []struct {
		s, want string
		err     api.Errno
	}{
		{"", "", api.OK},
		{"00", "\x00", api.OK},
		{"0A", "\n", api.OK},
		{"0a", "\n", api.OK},
		{"fFFf", "\xff\xff", api.OK},
		{"0FF0", "\x0f\xf0", api.OK},
		{"DEADbeef", "\xde\xad\xbe\xef", api.OK},
		{"0", "", api.ErrEnd},
		{"a", "", api.ErrEnd},
		{"000", "", api.ErrEnd},
		{"41424", "", api.ErrEnd},
		{"g", "", api.ErrForm},
		{"0g", "", api.ErrForm},
		{"g0", "", api.ErrForm},
		{"41g", "", api.ErrForm},
		{"4142 ", "", api.ErrForm},
		{" 4142", "", api.ErrForm},
		{"41 42", "", api.ErrForm},
		{"41\r\n", "", api.ErrForm},
		{"=41", "", api.ErrForm},
		{"0x41", "", api.ErrForm},
		{"-1", "", api.ErrForm},
		{"\xff\xff", "", api.ErrForm},
		{"\x00", "", api.ErrForm},
	}
	for _, x := range cases {
		if got, err := Read([]byte(x.s)); string(got) != x.want || err != x.err {
			t.Errorf("Read(%q) = %q, %d, want %q, %d", x.s, got, err, x.want, x.err)
		}
	}
	if got, err := Read(nil); len(got) != 0 || err != api.OK {
		t.Errorf("Read of nil is %q, %d", got, err)
	}
}

func TestReadOfEveryOctetAlone(t *testing.T) {
	for _, c := range allOctets() {
		want := api.ErrForm
		if number(c) >= 0 {
			want = api.ErrEnd
		}
		if got, err := Read([]byte{c}); got != nil || err != want {
			t.Errorf("Read of %d is %q, %d, want %d", c, got, err, want)
		}
	}
}

func TestReadOfEveryPair(t *testing.T) {
	for _, high := range allOctets() {
		for _, low := range allOctets() {
			got, err := Read([]byte{high, low})
			h, l := number(high), number(low)
			if h < 0 || l < 0 {
				if got != nil || err != api.ErrForm {
					t.Fatalf("Read of %d and %d is %q, %d", high, low, got, err)
				}
			} else if len(got) != 1 || int(got[0]) != 16*h+l || err != api.OK {
				t.Fatalf("Read of %d and %d is %q, %d", high, low, got, err)
			}
		}
	}
}

func TestReadTellsTheFormFirst(t *testing.T) {
	for _, n := range []int{1, 2, 3, 4, 7, 8} {
		for at := range n {
			s := bytes.Repeat([]byte("7"), n)
			s[at] = 'h'
			if got, err := Read(s); got != nil || err != api.ErrForm {
				t.Errorf("Read(%q) = %q, %d", s, got, err)
			}
		}
	}
}

func TestCapital(t *testing.T) {
	for _, c := range allOctets() {
		want := c < 97 || c > 102
		for _, s := range [][]byte{{c}, {c, 'A'}, {'0', c}, {'F', c, '9'}} {
			if got := Capital(s); got != want {
				t.Errorf("Capital(%q) = %v", s, got)
			}
		}
	}
	cases := []struct {
		s    string
		want bool
	}{
		{"", true}, {"0123456789ABCDEF", true}, {"=C3=A9", true}, {"ghz`", true}, {"xyz", true}, {"\xe1\xff", true},
		{"0123456789ABCDEf", false}, {"aBC", false}, {"=c3", false}, {"zebra", false},
	}
	for _, x := range cases {
		if got := Capital([]byte(x.s)); got != x.want {
			t.Errorf("Capital(%q) = %v", x.s, got)
		}
	}
	if !Capital(nil) {
		t.Error("there are small digits in nothing")
	}
}

// P2.3

func TestWhatIsLaidIsRead(t *testing.T) {
	texts := [][]byte{nil, {}, {0}, {255}, []byte("text"), allOctets(), bytes.Repeat(allOctets(), 40)}
	for a := range 256 {
		for b := range 256 {
			texts = append(texts, []byte{byte(a), byte(b)})
		}
	}
	for _, s := range texts {
		laid := Lay(s)
		if got, err := Read(laid); !bytes.Equal(got, s) || err != api.OK {
			t.Fatalf("%q is laid as %q, and read as %q, %d", s, laid, got, err)
		}
		if len(laid) != 2*len(s) || !Capital(laid) {
			t.Fatalf("%q is laid as %q", s, laid)
		}
	}
}

func TestWhatIsReadIsLaidWithCapitals(t *testing.T) {
	const both = "0123456789ABCDEFabcdef"
	for i := range len(both) {
		for j := range len(both) {
			s := []byte{both[i], both[j], '0', both[i]}
			got, err := Read(s)
			if err != api.OK {
				t.Fatalf("Read(%q) = %d", s, err)
			}
			if laid := Lay(got); !bytes.Equal(laid, bytes.ToUpper(s)) {
				t.Fatalf("%q is read, and laid as %q", s, laid)
			}
		}
	}
}

// R4

func TestArgumentsAreLeft(t *testing.T) {
	for _, text := range []string{"", "a", "0aFf", "=0a", "0g", "012", "\x00\xff"} {
		s := roomy(text)
		for i := range room(s) {
			room(s)[i] = '7'
		}
		Put(s, '=', 'c')
		Take(s, 0, '=')
		Lay(s)
		Read(s)
		Capital(s)
		if string(s) != text {
			t.Errorf("of %q %q is left", text, s)
		}
		if !bytes.Equal(room(s), bytes.Repeat([]byte("7"), len(room(s)))) {
			t.Errorf("behind %q %q is written", text, room(s))
		}
	}
}

func TestAnswersShareNothing(t *testing.T) {
	calls := map[string]func([]byte) []byte{
		"Put":  func(s []byte) []byte { return Put(s, '=', 10) },
		"Lay":  Lay,
		"Read": func(s []byte) []byte { out, _ := Read(s); return out },
	}
	for name, call := range calls {
		for _, text := range []string{"", "00", "0aFf", "DEADbeef"} {
			s := roomy(text)
			answer := call(s)
			before := string(answer)
			again := call(s)
			writeOver(again)
			if string(s) != text || string(answer) != before {
				t.Errorf("%s(%q): writing into an answer leaves %q and turns %q to %q", name, text, s, before, answer)
			}
			writeOver(s)
			if string(answer) != before {
				t.Errorf("%s(%q): the answer %q turns to %q", name, text, before, answer)
			}
			if third := call([]byte(text)); string(third) != before {
				t.Errorf("%s(%q) is %q, and later %q", name, text, before, third)
			}
		}
	}
}

func TestPutTwiceBehindOneList(t *testing.T) {
	b := roomy("b")
	first := Put(b, '=', 1)
	second := Put(b, '%', 0xFE)
	if string(first) != "b=01" || string(second) != "b%FE" {
		t.Errorf("%q and %q stand behind one list", first, second)
	}
}

func TestSpareCapacityTurnsNothing(t *testing.T) {
	spare := []byte("=4141abc")
	if c, ok := Take(spare[:2], 0, '='); c != 0 || ok {
		t.Errorf("Take reads behind the end: %d, %v", c, ok)
	}
	if got := Lay(spare[:1]); string(got) != "3D" {
		t.Errorf("Lay is %q", got)
	}
	if got, err := Read(spare[1:4]); got != nil || err != api.ErrEnd {
		t.Errorf("Read is %q, %d", got, err)
	}
	if !Capital(spare[:5]) {
		t.Error("what lies behind the end is asked")
	}
	if got := Put(spare[:3], '=', 0x42); string(got) != "=41=42" {
		t.Errorf("Put is %q", got)
	}
}
