package bmod

import (
	"bytes"
	"encoding/base64"
	"math"
	"slices"
	"strings"
	"testing"

	"sheave/api"
	"sheave/bcode"
)

// alphabet writes the digits out, in their order.
const alphabet = "ABCDEFGHIJKLMNOPQRSTUVWXYZ" + "abcdefghijklmnopqrstuvwxyz" + "0123456789" + "+,"

// library is the modified code as the library has it.
func library() *base64.Encoding {
	return base64.NewEncoding(alphabet).WithPadding(base64.NoPadding)
}

// number is a digit's number as the document has it, or -1 of none.
func number(c byte) int {
	switch {
	case c >= 65 && c <= 90:
		return int(c) - 65
	case c >= 97 && c <= 122:
		return int(c) - 97 + 26
	case c >= 48 && c <= 57:
		return int(c) - 48 + 52
	case c == 43:
		return 62
	case c == 44:
		return 63
	}
	return -1
}

// expectedRead tells by a row of bits, one by one, what Read answers.
func expectedRead(s []byte) ([]byte, api.Errno) {
	var bits []int
	for _, c := range s {
		n := number(c)
		if n < 0 {
			return nil, 3
		}
		for _, weight := range []int{32, 16, 8, 4, 2, 1} {
			bits = append(bits, n/weight%2)
		}
	}
	if len(s)%4 == 1 {
		return nil, 4
	}
	var out []byte
	for len(bits) >= 8 {
		x := 0
		for _, bit := range bits[:8] {
			x = 2*x + bit
		}
		out = append(out, byte(x))
		bits = bits[8:]
	}
	if slices.Contains(bits, 1) {
		return nil, 3
	}
	return out, 0
}

// every hands on all lists of these octets of so many elements.
func every(of []byte, many int, do func(s []byte)) {
	s := make([]byte, many)
	var from func(at int)
	from = func(at int) {
		if at == many {
			do(s)
			return
		}
		for _, c := range of {
			s[at] = c
			from(at + 1)
		}
	}
	from(0)
}

func allOctets() []byte {
	s := make([]byte, 256)
	for c := range s {
		s[c] = byte(c)
	}
	return s
}

// someOctets is a row of octets of that length that has no short period.
func someOctets(many int) []byte {
	s := make([]byte, many)
	x := uint32(many) + 1
	for i := range s {
		x = x*1664525 + 1013904223
		s[i] = byte(x >> 24)
	}
	return s
}

// roomy is a list with room behind its end, that is full of something.
func roomy(s []byte) []byte {
	whole := bytes.Repeat([]byte{'R'}, len(s)+32)
	copy(whole, s)
	return whole[:len(s)]
}

// untouched tells whether such a list and its room are as they were.
func untouched(s, as []byte) bool {
	room := s[len(s):cap(s)]
	return bytes.Equal(s, as) && bytes.Equal(room, bytes.Repeat([]byte{'R'}, len(room)))
}

// writeOver fills a list to its capacity, so that memory that is shared shows.
func writeOver(s []byte) {
	s = s[:cap(s)]
	for i := range s {
		s[i] = 'X'
	}
}

// checkRead holds what Read answers against what is expected.
func checkRead(t *testing.T, s []byte) {
	t.Helper()
	want, wantErr := expectedRead(s)
	got, err := Read(s)
	if err != wantErr || !bytes.Equal(got, want) {
		t.Fatalf("Read(%q) = %v, %d, want %v, %d", s, got, err, want, wantErr)
	}
}

// P17.1

func TestValueOfAllOctets(t *testing.T) {
	digits := 0
	for _, c := range allOctets() {
		n, ok := Value(c)
		want := number(c)
		if ok != (want >= 0) || ok && n != want || !ok && n != 0 {
			t.Errorf("Value(%d) = %d, %v, want %d", c, n, ok, want)
		}
		if ok {
			digits++
		}
	}
	if digits != 64 {
		t.Errorf("%d digits, want 64", digits)
	}
}

func TestValueAtEdges(t *testing.T) {
	cases := []struct {
		c  byte
		n  int
		ok bool
	}{
		{'A', 0, true}, {'Z', 25, true}, {'a', 26, true}, {'z', 51, true}, {'0', 52, true}, {'9', 61, true}, {'+', 62, true}, {',', 63, true},
		{'/', 0, false}, {'=', 0, false}, {'-', 0, false}, {'&', 0, false}, {'_', 0, false}, {'.', 0, false}, {'*', 0, false},
		{'@', 0, false}, {'[', 0, false}, {'`', 0, false}, {'{', 0, false}, {':', 0, false},
		{' ', 0, false}, {0, 0, false}, {10, 0, false}, {13, 0, false}, {128 + ',', 0, false}, {128 + 'A', 0, false}, {255, 0, false},
	}
	for _, x := range cases {
		if n, ok := Value(x.c); n != x.n || ok != x.ok {
			t.Errorf("Value(%q) = %d, %v, want %d, %v", x.c, n, ok, x.n, x.ok)
		}
	}
}

func TestValueBesideTheUsualOne(t *testing.T) {
	for n := range 64 {
		if got, ok := Value(alphabet[n]); got != n || !ok {
			t.Errorf("Value(%q) = %d, %v, want %d", alphabet[n], got, ok, n)
		}
	}
	for _, c := range allOctets() {
		if c == ',' || c == '/' {
			continue
		}
		n, ok := Value(c)
		if usual, right := bcode.Value(c); n != usual || ok != right {
			t.Errorf("Value(%q) = %d, %v, want layer 14's %d, %v", c, n, ok, usual, right)
		}
	}
}

func TestLay(t *testing.T) {
	cases := []struct{ s, code string }{
		{"\xff\xfe", ",,4"},
		{"", ""}, {"f", "Zg"}, {"fo", "Zm8"}, {"foo", "Zm9v"}, {"foob", "Zm9vYg"}, {"fooba", "Zm9vYmE"}, {"foobar", "Zm9vYmFy"},
		{"\x00", "AA"}, {"\x00\x00", "AAA"}, {"\x00\x00\x00", "AAAA"}, {"\x00\x00\x00\x00", "AAAAAA"},
		{"\xff", ",w"}, {"\xff\xff", ",,8"}, {"\xff\xff\xff", ",,,,"}, {"\xff\xff\xff\xff", ",,,,,w"}, {"\xfb\xef\xbe", "++++"}, {"\xfb\xff\xbf", "+,+,"},
		{"\x01", "AQ"}, {"\x80", "gA"}, {"\x00\x01", "AAE"}, {"\x00\x00\x01", "AAAB"}, {"\x00\x00\x3f", "AAA,"}, {"\x00\x0f\xc0", "AA,A"},
		{"\x53\xf0", "U,A"}, {"\x65\xe5\x67\x2c\x8a\x9e", "ZeVnLIqe"}, {"\x00a", "AGE"},
		{",", "LA"}, {"/", "Lw"}, {"=", "PQ"}, {"/,/", "Lywv"}, {"\r\n", "DQo"},
	}
	for _, x := range cases {
		if got := Lay([]byte(x.s)); string(got) != x.code {
			t.Errorf("Lay(%q) = %q, want %q", x.s, got, x.code)
		}
	}
}

func checkLay(t *testing.T, s []byte) {
	t.Helper()
	got := Lay(s)
	if want := library().EncodeToString(s); string(got) != want {
		t.Fatalf("Lay(%v) = %q, want %q", s, got, want)
	}
	if want := strings.ReplaceAll(string(bcode.Bare(s)), "/", ","); string(got) != want {
		t.Fatalf("Lay(%v) = %q, want %q of layer 14", s, got, want)
	}
	if many := Len(len(s)); many != len(got) {
		t.Fatalf("Len(%d) = %d, but the code has %d", len(s), many, len(got))
	}
}

func TestLayOfEveryShortList(t *testing.T) {
	for many := range 3 {
		every(allOctets(), many, func(s []byte) { checkLay(t, s) })
	}
	every([]byte{0, 1, 4, 15, 16, 63, 64, 192, 240, 252, 255, ',', '/'}, 3, func(s []byte) { checkLay(t, s) })
	every([]byte{0, 85, 170, 255}, 5, func(s []byte) { checkLay(t, s) })
}

func TestLayOfEveryBit(t *testing.T) {
	for many := 1; many <= 9; many++ {
		for bit := range 8 * many {
			s := make([]byte, many)
			s[bit/8] = 128 >> (bit % 8)
			checkLay(t, s)
			for i := range s {
				s[i] = ^s[i]
			}
			checkLay(t, s)
		}
	}
}

func TestLayOfLongerLists(t *testing.T) {
	for many := range 300 {
		checkLay(t, someOctets(many))
		checkLay(t, bytes.Repeat([]byte{255}, many))
	}
	checkLay(t, allOctets())
	checkLay(t, someOctets(100001))
}

func TestLen(t *testing.T) {
	for n := -100; n <= 3000; n++ {
		want := 0
		if n > 0 {
			want = library().EncodedLen(n)
		}
		if got := Len(n); got != want {
			t.Errorf("Len(%d) = %d, want %d", n, got, want)
		}
	}
}

func TestLenOfGreatNumbers(t *testing.T) {
	// As many octets as a code has that is just as long as a number can tell.
	most := math.MaxInt/4*3 + 2
	cases := []struct{ n, want int }{
		{math.MinInt, 0}, {math.MinInt + 1, 0}, {math.MinInt32, 0}, {-1, 0}, {0, 0},
		{1, 2}, {2, 3}, {3, 4}, {4, 6}, {5, 7}, {6, 8}, {7, 10},
		{1<<31 - 1, 2863311530}, {1 << 31, 2863311531}, {1<<31 + 1, 2863311532}, {1<<31 + 2, 2863311534},
		{most - 5, math.MaxInt - 7}, {most - 4, math.MaxInt - 5}, {most - 3, math.MaxInt - 4}, {most - 2, math.MaxInt - 3}, {most - 1, math.MaxInt - 1}, {most, math.MaxInt},
		// R2: no number leaves its type.
		{most + 1, math.MaxInt}, {most + 2, math.MaxInt}, {most + 3, math.MaxInt}, {math.MaxInt - 2, math.MaxInt}, {math.MaxInt - 1, math.MaxInt}, {math.MaxInt, math.MaxInt},
	}
	for _, x := range cases {
		if got := Len(x.n); got != x.want {
			t.Errorf("Len(%d) = %d, want %d", x.n, got, x.want)
		}
	}
}

// P17.2

func TestRead(t *testing.T) {
	cases := []struct {
		s, octets string
		err       api.Errno
	}{
		{",,4", "\xff\xfe", api.OK},
		{"", "", api.OK}, {"Zg", "f", api.OK}, {"Zm8", "fo", api.OK}, {"Zm9v", "foo", api.OK}, {"Zm9vYg", "foob", api.OK}, {"Zm9vYmE", "fooba", api.OK}, {"Zm9vYmFy", "foobar", api.OK},
		{"AA", "\x00", api.OK}, {"AAA", "\x00\x00", api.OK}, {",w", "\xff", api.OK}, {",,8", "\xff\xff", api.OK}, {",,,,", "\xff\xff\xff", api.OK}, {"++++", "\xfb\xef\xbe", api.OK}, {"AGE", "\x00a", api.OK}, {"U,A", "\x53\xf0", api.OK},
		// The bits that must be 0, each of them.
		{"Zh", "", api.ErrForm}, {"Zi", "", api.ErrForm}, {"Zk", "", api.ErrForm}, {"Zo", "", api.ErrForm}, {"Zw", "g", api.OK},
		{"Zm9", "", api.ErrForm}, {"Zm+", "", api.ErrForm}, {"Zm,", "", api.ErrForm}, {"Zm4", "fn", api.OK},
		{",,", "", api.ErrForm}, {",,,", "", api.ErrForm}, {"AAAAZh", "", api.ErrForm}, {"AAAAZm9", "", api.ErrForm}, {"AAAB", "\x00\x00\x01", api.OK}, {"AAA,", "\x00\x00\x3f", api.OK},
		// One more than a multiple of four, whatever its bits.
		{"A", "", api.ErrEnd}, {"Z", "", api.ErrEnd}, {",", "", api.ErrEnd}, {"B", "", api.ErrEnd}, {"AAAAA", "", api.ErrEnd}, {"Zm9vY", "", api.ErrEnd}, {",,,,,", "", api.ErrEnd}, {"Zm9vYmFyZ", "", api.ErrEnd},
		// What fills up, and the usual digit, are none.
		{"=", "", api.ErrForm}, {"Zg==", "", api.ErrForm}, {"Zm8=", "", api.ErrForm}, {"Zg=", "", api.ErrForm}, {"Zm9v=", "", api.ErrForm}, {"A===", "", api.ErrForm}, {"====", "", api.ErrForm}, {"==", "", api.ErrForm},
		{"/", "", api.ErrForm}, {"/w", "", api.ErrForm}, {"//8", "", api.ErrForm}, {"////", "", api.ErrForm}, {"U/A", "", api.ErrForm}, {",/4", "", api.ErrForm}, {",/,/", "", api.ErrForm}, {"AAA/", "", api.ErrForm},
		// What is no digit, at each place, whatever the length.
		{"*", "", api.ErrForm}, {"Z*", "", api.ErrForm}, {"*g", "", api.ErrForm}, {"Zm9*", "", api.ErrForm}, {"*Zm9v", "", api.ErrForm}, {"Zm9v*", "", api.ErrForm}, {"Zm9vYg*", "", api.ErrForm},
		{"Zm9v\r\n", "", api.ErrForm}, {"Zm\r\n", "", api.ErrForm}, {"Zm\n9v", "", api.ErrForm}, {" Zg", "", api.ErrForm}, {"Zg ", "", api.ErrForm}, {"Zm-v", "", api.ErrForm}, {"Zm_v", "", api.ErrForm}, {"&Zg-", "", api.ErrForm}, {"\x00AA", "", api.ErrForm}, {"AA\x80", "", api.ErrForm},
		// What is no digit is named ahead of the length, and of the bits.
		{"*AAAA", "", api.ErrForm}, {"AAAA*", "", api.ErrForm}, {"*Zh", "", api.ErrForm},
	}
	for _, x := range cases {
		got, err := Read([]byte(x.s))
		if string(got) != x.octets || err != x.err {
			t.Errorf("Read(%q) = %v, %d, want %v, %d", x.s, got, err, []byte(x.octets), x.err)
		}
		if err != api.OK && got != nil {
			t.Errorf("Read(%q) has a list beside error %d", x.s, err)
		}
		checkRead(t, []byte(x.s))
	}
}

func TestReadOfEveryTwoOctets(t *testing.T) {
	for many := range 3 {
		every(allOctets(), many, func(s []byte) { checkRead(t, s) })
	}
}

func TestReadOfEveryOctetAtEachPlace(t *testing.T) {
	for _, code := range []string{"A", "AA", "AAA", "AAAA", "AAAAA", "AAAAAA", "AAAAAAA", "AAAAAAAA", ",,,,,,,,,", "Zm9vYmFyZm8"} {
		for at := range len(code) {
			for _, c := range allOctets() {
				s := []byte(code)
				s[at] = c
				checkRead(t, s)
			}
		}
	}
}

func TestReadOfEveryPairOfDigits(t *testing.T) {
	// Two digits, a third and a fourth: all bits that must be 0, and those that need not.
	every([]byte(alphabet), 2, func(s []byte) {
		checkRead(t, s)
		checkRead(t, append([]byte("A"), s...))
		checkRead(t, append([]byte(",+"), s...))
		checkRead(t, append([]byte("AAAA"), s...))
		checkRead(t, append([]byte("AAA,"), append(slices.Clone(s), 'A')...))
	})
}

func TestReadOfEveryShortList(t *testing.T) {
	for many := range 9 {
		every([]byte("AB,/"), many, func(s []byte) { checkRead(t, s) })
	}
	for many := range 6 {
		every([]byte("AQgw,/E="), many, func(s []byte) { checkRead(t, s) })
	}
}

func TestReadAsTheLibrary(t *testing.T) {
	strict := library().Strict()
	for many := range 9 {
		every([]byte("Ag8,/"), many, func(s []byte) {
			want, wantErr := strict.DecodeString(string(s))
			got, err := Read(s)
			if (err == api.OK) != (wantErr == nil) || err == api.OK && !bytes.Equal(got, want) {
				t.Fatalf("Read(%q) = %v, %d, but the library tells %v, %v", s, got, err, want, wantErr)
			}
		})
	}
}

func TestReadOfLongerLists(t *testing.T) {
	for many := range 300 {
		code := []byte(library().EncodeToString(someOctets(many)))
		checkRead(t, code)
		checkRead(t, append(slices.Clone(code), 'A'))
		for _, at := range []int{0, many / 2, many, len(code) - 2, len(code) - 1} {
			if at < 0 || at >= len(code) {
				continue
			}
			for _, c := range []byte("=/,*B\n") {
				other := slices.Clone(code)
				other[at] = c
				checkRead(t, other)
			}
			checkRead(t, slices.Delete(slices.Clone(code), at, at+1))
			checkRead(t, slices.Insert(slices.Clone(code), at, '/'))
		}
	}
}

func TestUsualAndModified(t *testing.T) {
	cases := []struct{ s, usual, modified string }{
		{"", "", ""}, {",", "/", ","}, {"/", "/", ","}, {",/", "//", ",,"}, {"/,", "//", ",,"},
		{",,4", "//4", ",,4"}, {"//8=", "//8=", ",,8="}, {"A,B/C", "A/B/C", "A,B,C"},
		{"Zg==", "Zg==", "Zg=="}, {"+-&", "+-&", "+-&"}, {"\x00,\xff/\r\n", "\x00/\xff/\r\n", "\x00,\xff,\r\n"},
		{"a/b, c/d", "a/b/ c/d", "a,b, c,d"}, {"\xac\xaf", "\xac\xaf", "\xac\xaf"},
	}
	for _, x := range cases {
		if got := Usual([]byte(x.s)); string(got) != x.usual {
			t.Errorf("Usual(%q) = %q, want %q", x.s, got, x.usual)
		}
		if got := Modified([]byte(x.s)); string(got) != x.modified {
			t.Errorf("Modified(%q) = %q, want %q", x.s, got, x.modified)
		}
	}
}

// checkTurned holds Usual and Modified of a list against an octet-by-octet turn.
func checkTurned(t *testing.T, s []byte) {
	t.Helper()
	usual, modified := make([]byte, len(s)), make([]byte, len(s))
	for i, c := range s {
		usual[i], modified[i] = c, c
		if c == 44 {
			usual[i] = 47
		}
		if c == 47 {
			modified[i] = 44
		}
	}
	if got := Usual(s); !bytes.Equal(got, usual) {
		t.Fatalf("Usual(%q) = %q, want %q", s, got, usual)
	}
	if got := Modified(s); !bytes.Equal(got, modified) {
		t.Fatalf("Modified(%q) = %q, want %q", s, got, modified)
	}
}

func TestUsualAndModifiedOfAllOctets(t *testing.T) {
	for many := range 3 {
		every(allOctets(), many, func(s []byte) { checkTurned(t, s) })
	}
	for many := range 8 {
		every([]byte(",/A="), many, func(s []byte) { checkTurned(t, s) })
	}
	for many := range 300 {
		checkTurned(t, someOctets(many))
	}
	checkTurned(t, bytes.Repeat([]byte(",/"), 50000))
}

// P17.3

func TestWhatIsLaidIsRead(t *testing.T) {
	one := func(s []byte) {
		code := Lay(s)
		if got, err := Read(code); err != api.OK || !bytes.Equal(got, s) {
			t.Fatalf("%v is laid as %q, and read as %v, %d", s, code, got, err)
		}
		for _, c := range code {
			if _, ok := Value(c); !ok {
				t.Fatalf("%v is laid as %q, where %q is no digit", s, code, c)
			}
		}
	}
	for many := range 3 {
		every(allOctets(), many, one)
	}
	every([]byte{0, 1, 63, 64, 127, 128, 254, 255}, 4, one)
	for many := range 600 {
		one(someOctets(many))
		one(make([]byte, many))
		one(bytes.Repeat([]byte{255}, many))
	}
	one(someOctets(1 << 18))
}

func TestWhatIsReadIsLaidAsTheSame(t *testing.T) {
	read := 0
	one := func(s []byte) {
		got, err := Read(s)
		if err != api.OK {
			return
		}
		read++
		if code := Lay(got); !bytes.Equal(code, s) {
			t.Fatalf("%q is read as %v, and laid as %q", s, got, code)
		}
	}
	for many := range 9 {
		every([]byte("AQw,/"), many, one)
	}
	for many := range 4 {
		every([]byte(alphabet), many, one)
	}
	if read < 10000 {
		t.Errorf("%d lists are read", read)
	}
}

func TestUsualOfACodeIsLayer14s(t *testing.T) {
	for many := range 300 {
		s := someOctets(many)
		if got, want := Usual(Lay(s)), bcode.Bare(s); !bytes.Equal(got, want) {
			t.Errorf("Usual of the code of %v = %q, want %q", s, got, want)
		}
		if got, want := Modified(bcode.Bare(s)), Lay(s); !bytes.Equal(got, want) {
			t.Errorf("Modified of layer 14's code of %v = %q, want %q", s, got, want)
		}
	}
}

// R1: with an error there are no octets.
func TestNothingBesideAnError(t *testing.T) {
	for _, s := range []string{"A", "Zm9vY", "Zh", "Zm9", "Zm9vZh", "Zg==", "/w", "Zm9v*", "Zm9v\n", "="} {
		if got, err := Read([]byte(s)); err == api.OK || got != nil {
			t.Errorf("Read(%q) = %v, %d", s, got, err)
		}
	}
}

// R5: nil and empty lists.
func TestNilAndEmpty(t *testing.T) {
	for _, s := range [][]byte{nil, {}, make([]byte, 0, 8)} {
		for i, call := range calls() {
			if got := call(s); len(got) != 0 {
				t.Errorf("call %d of nothing = %q", i, got)
			}
		}
		if _, err := Read(s); err != api.OK {
			t.Errorf("Read of nothing tells %d", err)
		}
	}
}

// calls are those that answer a list, each of them as one of a list alone.
func calls() []func(s []byte) []byte {
	read := func(s []byte) []byte {
		out, _ := Read(s)
		return out
	}
	return []func(s []byte) []byte{Lay, read, Usual, Modified}
}

// samples are lists that are right, wrong, short and long, with and without the two digits.
func samples() []string {
	long := library().EncodeToString(someOctets(100))
	return []string{"", "f", "Zg", "Zm8", "Zm9v", "Zm9vYg", ",,4", ",w", "/w", ",/,/", "Zh", "Zm9vY", "Zg==", "\xff\xfe", long, long + "A", long + "/", strings.Repeat(",", 200)}
}

// R3: the same again, whatever capacity a list has.
func TestSameAnswersAgain(t *testing.T) {
	for i, call := range calls() {
		for _, s := range samples() {
			want := call(slices.Clip([]byte(s)))
			for range 3 {
				if got := call(roomy([]byte(s))); !bytes.Equal(got, want) {
					t.Errorf("call %d of %q answers %q, and then %q", i, s, want, got)
				}
			}
		}
	}
}

// R4: lists are left as they are, and answers share nothing.

func TestListsAreLeft(t *testing.T) {
	for _, text := range samples() {
		as := []byte(text)
		s := roomy(as)
		for _, call := range calls() {
			call(s)
		}
		if !untouched(s, as) {
			t.Errorf("%q was written into: %q", as, s[:cap(s)])
		}
	}
}

func TestAnswersShareNothing(t *testing.T) {
	for i, call := range calls() {
		for _, text := range samples() {
			as := []byte(text)
			s := roomy(as)
			first := call(s)
			want := slices.Clone(first)
			writeOver(first)
			if !untouched(s, as) {
				t.Errorf("call %d of %q answers what it was handed", i, as)
			}
			second := call(s)
			if !bytes.Equal(second, want) {
				t.Errorf("call %d of %q answers %q after a write, %q ahead", i, as, second, want)
			}
			writeOver(s)
			if !bytes.Equal(second, want) {
				t.Errorf("call %d of %q keeps what it was handed", i, as)
			}
		}
	}
}
