package bcode

import (
	"bytes"
	"encoding/base64"
	"math"
	"slices"
	"strings"
	"testing"

	"sheave/api"
)

// capitals, smalls and numerals write the alphabet out, in its order.
const (
	capitals = "ABCDEFGHIJKLMNOPQRSTUVWXYZ"
	smalls   = "abcdefghijklmnopqrstuvwxyz"
	numerals = "0123456789"
)

// number is a digit's number as the document has it, or -1 of none.
func number(c byte) int {
	switch {
	case c >= 65 && c <= 90:
		return int(c) - 65
	case c >= 97 && c <= 122:
		return int(c) - 97 + 26
	case c >= 48 && c <= 57:
		return int(c) - 48 + 52
	case c == 43:
		return 62
	case c == 47:
		return 63
	}
	return -1
}

// expectedRead tells by a text of bits, one by one, what Read answers.
func expectedRead(s []byte) ([]byte, api.Errno) {
	bare := string(s)
	fills := 0
	for fills < 2 && strings.HasSuffix(bare, "=") {
		bare = bare[:len(bare)-1]
		fills++
	}
	var bits []int
	for i := range len(bare) {
		n := number(bare[i])
		if n < 0 {
			return nil, 3
		}
		for _, weight := range []int{32, 16, 8, 4, 2, 1} {
			bits = append(bits, n/weight%2)
		}
	}
	if len(s)%4 != 0 {
		return nil, 4
	}
	var out []byte
	for len(bits) >= 8 {
		x := 0
		for _, bit := range bits[:8] {
			x = 2*x + bit
		}
		out = append(out, byte(x))
		bits = bits[8:]
	}
	if slices.Contains(bits, 1) {
		return nil, 3
	}
	return out, 0
}

// every hands on all lists of these octets of so many elements.
func every(of []byte, many int, do func(s []byte)) {
	s := make([]byte, many)
	var from func(at int)
	from = func(at int) {
		if at == many {
			do(s)
			return
		}
		for _, c := range of {
			s[at] = c
			from(at + 1)
		}
	}
	from(0)
}

func allOctets() []byte {
	s := make([]byte, 256)
	for c := range s {
		s[c] = byte(c)
	}
	return s
}

// someOctets is a row of octets of that length that has no short period.
func someOctets(many int) []byte {
	s := make([]byte, many)
	x := uint32(many) + 1
	for i := range s {
		x = x*1664525 + 1013904223
		s[i] = byte(x >> 24)
	}
	return s
}

// roomy is a list with room behind its end, that is full of something.
func roomy(s []byte) []byte {
	whole := bytes.Repeat([]byte{'R'}, len(s)+32)
	copy(whole, s)
	return whole[:len(s)]
}

// untouched tells whether such a list and its room are as they were.
func untouched(s, as []byte) bool {
	room := s[len(s):cap(s)]
	return bytes.Equal(s, as) && bytes.Equal(room, bytes.Repeat([]byte{'R'}, len(room)))
}

// writeOver fills a list to its capacity, so that memory that is shared shows.
func writeOver(s []byte) {
	s = s[:cap(s)]
	for i := range s {
		s[i] = 'X'
	}
}

// checkRead holds what Read and Right answer against what is expected.
func checkRead(t *testing.T, s []byte) {
	t.Helper()
	want, wantErr := expectedRead(s)
	got, err := Read(s)
	if err != wantErr || !bytes.Equal(got, want) {
		t.Fatalf("Read(%q) = %v, %d, want %v, %d", s, got, err, want, wantErr)
	}
	if got := Right(s); got != (wantErr == 0) {
		t.Fatalf("Right(%q) = %v beside error %d", s, got, wantErr)
	}
}

// P14.1

func TestDigit(t *testing.T) {
	alphabet := capitals + smalls + numerals + "+/"
	for n := range 64 {
		if got := Digit(n); got != alphabet[n] {
			t.Errorf("Digit(%d) = %q, want %q", n, got, alphabet[n])
		}
	}
}

func TestDigitOfAnyNumber(t *testing.T) {
	cases := []struct {
		n    int
		want byte
	}{
		{64, 'A'}, {65, 'B'}, {127, '/'}, {128, 'A'}, {256 + 26, 'a'},
		{-1, '/'}, {-2, '+'}, {-3, '9'}, {-12, '0'}, {-13, 'z'}, {-38, 'a'}, {-39, 'Z'}, {-63, 'B'}, {-64, 'A'}, {-65, '/'},
		{math.MaxInt, '/'}, {math.MaxInt - 1, '+'}, {math.MinInt, 'A'}, {math.MinInt + 1, 'B'},
		{math.MaxInt32, '/'}, {math.MinInt32, 'A'}, {math.MaxInt32 + 1, 'A'}, {math.MinInt32 - 1, '/'},
	}
	for _, x := range cases {
		if got := Digit(x.n); got != x.want {
			t.Errorf("Digit(%d) = %q, want %q", x.n, got, x.want)
		}
	}
	for n := -1000; n <= 1000; n++ {
		if got, want := Digit(n), Digit((n%64+64)%64); got != want {
			t.Errorf("Digit(%d) = %q, want %q", n, got, want)
		}
	}
}

func TestValueOfAllOctets(t *testing.T) {
	digits := 0
	for _, c := range allOctets() {
		n, ok := Value(c)
		want := number(c)
		if ok != (want >= 0) || ok && n != want || !ok && n != 0 {
			t.Errorf("Value(%d) = %d, %v, want %d", c, n, ok, want)
		}
		if ok {
			digits++
		}
	}
	if digits != 64 {
		t.Errorf("%d digits, want 64", digits)
	}
}

func TestValueAtEdges(t *testing.T) {
	cases := []struct {
		c  byte
		n  int
		ok bool
	}{
		{'A', 0, true}, {'Z', 25, true}, {'a', 26, true}, {'z', 51, true}, {'0', 52, true}, {'9', 61, true}, {'+', 62, true}, {'/', 63, true},
		{'@', 0, false}, {'[', 0, false}, {'`', 0, false}, {'{', 0, false}, {':', 0, false}, {'*', 0, false}, {',', 0, false}, {'.', 0, false},
		{'=', 0, false}, {'-', 0, false}, {'_', 0, false}, {' ', 0, false}, {0, 0, false}, {10, 0, false}, {13, 0, false},
		{128 + 'A', 0, false}, {128 + '/', 0, false}, {255, 0, false},
	}
	for _, x := range cases {
		if n, ok := Value(x.c); n != x.n || ok != x.ok {
			t.Errorf("Value(%q) = %d, %v, want %d, %v", x.c, n, ok, x.n, x.ok)
		}
	}
}

func TestDigitsHaveTheirValues(t *testing.T) {
	for n := range 64 {
		if got, ok := Value(Digit(n)); got != n || !ok {
			t.Errorf("Value(Digit(%d)) = %d, %v", n, got, ok)
		}
	}
}

func TestLay(t *testing.T) {
	cases := []struct{ s, code string }{
		{"", ""}, {"f", "Zg=="}, {"fo", "Zm8="}, {"foo", "Zm9v"}, {"foob", "Zm9vYg=="}, {"fooba", "Zm9vYmE="}, {"foobar", "Zm9vYmFy"},
		{"\x00", "AA=="}, {"\x00\x00", "AAA="}, {"\x00\x00\x00", "AAAA"}, {"\x00\x00\x00\x00", "AAAAAA=="},
		{"\xff", "/w=="}, {"\xff\xff", "//8="}, {"\xff\xff\xff", "////"}, {"\xfb\xef\xbe", "++++"},
		{"\x01", "AQ=="}, {"\x80", "gA=="}, {"\x00\x01", "AAE="}, {"\x00\x00\x01", "AAAB"}, {"\x80\x00\x00", "gAAA"},
		{"=", "PQ=="}, {"==", "PT0="}, {"===", "PT09"}, {"\r\n", "DQo="},
	}
	for _, x := range cases {
		if got := Lay([]byte(x.s)); string(got) != x.code {
			t.Errorf("Lay(%q) = %q, want %q", x.s, got, x.code)
		}
		bare := strings.ReplaceAll(x.code, "=", "")
		if got := Bare([]byte(x.s)); string(got) != bare {
			t.Errorf("Bare(%q) = %q, want %q", x.s, got, bare)
		}
	}
}

func checkLay(t *testing.T, s []byte) {
	t.Helper()
	if got, want := Lay(s), base64.StdEncoding.EncodeToString(s); string(got) != want {
		t.Fatalf("Lay(%v) = %q, want %q", s, got, want)
	}
	if got, want := Bare(s), base64.RawStdEncoding.EncodeToString(s); string(got) != want {
		t.Fatalf("Bare(%v) = %q, want %q", s, got, want)
	}
}

func TestLayOfEveryShortList(t *testing.T) {
	for many := range 3 {
		every(allOctets(), many, func(s []byte) { checkLay(t, s) })
	}
	every([]byte{0, 1, 2, 4, 8, 16, 32, 64, 128, 255, 'A', '='}, 3, func(s []byte) { checkLay(t, s) })
	every([]byte{0, 85, 170, 255}, 5, func(s []byte) { checkLay(t, s) })
}

func TestLayOfEveryBit(t *testing.T) {
	for many := 1; many <= 9; many++ {
		for bit := range 8 * many {
			s := make([]byte, many)
			s[bit/8] = 128 >> (bit % 8)
			checkLay(t, s)
			for i := range s {
				s[i] = ^s[i]
			}
			checkLay(t, s)
		}
	}
}

func TestLayOfLongerLists(t *testing.T) {
	for many := range 300 {
		checkLay(t, someOctets(many))
	}
	checkLay(t, allOctets())
	checkLay(t, someOctets(100001))
}

func TestLen(t *testing.T) {
	for n := -100; n <= 3000; n++ {
		want := 0
		for i := 0; i < n; i += 3 {
			want += 4
		}
		if got := Len(n); got != want {
			t.Errorf("Len(%d) = %d, want %d", n, got, want)
		}
	}
}

func TestLenIsThatOfTheCode(t *testing.T) {
	for many := range 300 {
		if got, want := Len(many), len(Lay(make([]byte, many))); got != want {
			t.Errorf("Len(%d) = %d, but the code has %d", many, got, want)
		}
	}
}

func TestLenOfGreatNumbers(t *testing.T) {
	cases := []struct{ n, want int }{
		{math.MinInt, 0}, {math.MinInt + 1, 0}, {math.MinInt32, 0}, {-1, 0}, {0, 0}, {1, 4}, {3, 4}, {4, 8},
		{1<<31 - 1, 2863311532}, {1 << 31, 2863311532}, {1<<31 + 1, 2863311532}, {1<<31 + 2, 2863311536},
		{math.MaxInt / 4 * 3, math.MaxInt - 3}, {math.MaxInt/4*3 - 1, math.MaxInt - 3}, {math.MaxInt/4*3 - 3, math.MaxInt - 7},
		{math.MaxInt/4*3 + 1, math.MaxInt}, {math.MaxInt - 1, math.MaxInt}, {math.MaxInt, math.MaxInt},
	}
	for _, x := range cases {
		if got := Len(x.n); got != x.want {
			t.Errorf("Len(%d) = %d, want %d", x.n, got, x.want)
		}
	}
}

// P14.2

func TestRead(t *testing.T) {
	cases := []struct {
		s, octets string
		err       api.Errno
	}{
		{"", "", api.OK}, {"Zg==", "f", api.OK}, {"Zm8=", "fo", api.OK}, {"Zm9v", "foo", api.OK}, {"Zm9vYg==", "foob", api.OK}, {"Zm9vYmFy", "foobar", api.OK},
		{"AA==", "\x00", api.OK}, {"AAA=", "\x00\x00", api.OK}, {"////", "\xff\xff\xff", api.OK}, {"++++", "\xfb\xef\xbe", api.OK},
		// The bits that must be 0, each of them.
		{"Zh==", "", api.ErrForm}, {"Zi==", "", api.ErrForm}, {"Zk==", "", api.ErrForm}, {"Zo==", "", api.ErrForm}, {"Zw==", "g", api.OK},
		{"Zm9=", "", api.ErrForm}, {"Zm+=", "", api.ErrForm}, {"Zm/=", "", api.ErrForm}, {"Zm4=", "fn", api.OK},
		{"AAAAZh==", "", api.ErrForm}, {"AAAAZm9=", "", api.ErrForm}, {"AAAB", "\x00\x00\x01", api.OK},
		// Not a multiple of four, with what fills up and without.
		{"Z", "", api.ErrEnd}, {"Zg", "", api.ErrEnd}, {"Zm8", "", api.ErrEnd}, {"Zm9vY", "", api.ErrEnd}, {"Zm9vYg", "", api.ErrEnd}, {"Zm9vYmE", "", api.ErrEnd},
		{"=", "", api.ErrEnd}, {"==", "", api.ErrEnd}, {"Z=", "", api.ErrEnd}, {"Zg=", "", api.ErrEnd}, {"Z==", "", api.ErrEnd},
		{"Zm9v=", "", api.ErrEnd}, {"Zm9v==", "", api.ErrEnd}, {"Zm8==", "", api.ErrEnd}, {"Zm9vYg=", "", api.ErrEnd},
		// Bits that must be 0 are asked of no list of another length.
		{"Zh", "", api.ErrEnd}, {"Zh=", "", api.ErrEnd}, {"Zm9", "", api.ErrEnd}, {"Zm9==", "", api.ErrEnd},
		// More than two at the end, and such a sign elsewhere.
		{"===", "", api.ErrForm}, {"====", "", api.ErrForm}, {"Z===", "", api.ErrForm}, {"Zg===", "", api.ErrForm}, {"Zm9v====", "", api.ErrForm}, {"Zm9v===", "", api.ErrForm},
		{"=Zg=", "", api.ErrForm}, {"Z=g=", "", api.ErrForm}, {"Zg=a", "", api.ErrForm}, {"Zg==Zg==", "", api.ErrForm}, {"=AAA", "", api.ErrForm}, {"==A", "", api.ErrForm}, {"=A", "", api.ErrForm},
		// What is no digit, at each place, whatever the length.
		{"*", "", api.ErrForm}, {"Z*==", "", api.ErrForm}, {"*g==", "", api.ErrForm}, {"Zm9*", "", api.ErrForm}, {"*Zm9v", "", api.ErrForm}, {"Zm9v*", "", api.ErrForm},
		{"Zm9v\n", "", api.ErrForm}, {"Zm9v\r\n", "", api.ErrForm}, {"Zm\r\n", "", api.ErrForm}, {"\nZg==", "", api.ErrForm}, {"Zg==\n", "", api.ErrForm}, {"Zg= =", "", api.ErrForm}, {"Zg\n==", "", api.ErrForm},
		{" Zg==", "", api.ErrForm}, {"Zm 9v", "", api.ErrForm}, {"Zm-v", "", api.ErrForm}, {"Zm_v", "", api.ErrForm}, {"Zm,v", "", api.ErrForm}, {"\x00AAA", "", api.ErrForm}, {"AAA\x80", "", api.ErrForm},
		// What is no digit is named ahead of the bits, and of the length.
		{"*h==", "", api.ErrForm}, {"*Zh==", "", api.ErrForm},
	}
	for _, x := range cases {
		got, err := Read([]byte(x.s))
		if string(got) != x.octets || err != x.err {
			t.Errorf("Read(%q) = %v, %d, want %v, %d", x.s, got, err, []byte(x.octets), x.err)
		}
		if err != api.OK && got != nil {
			t.Errorf("Read(%q) has a list beside error %d", x.s, err)
		}
		if got := Right([]byte(x.s)); got != (x.err == api.OK) {
			t.Errorf("Right(%q) = %v", x.s, got)
		}
	}
}

func TestReadOfEveryTwoOctets(t *testing.T) {
	for many := range 3 {
		every(allOctets(), many, func(s []byte) { checkRead(t, s) })
	}
}

func TestReadOfEveryOctetInAGroup(t *testing.T) {
	for _, code := range []string{"Zg==", "Zm8=", "Zm9v", "Zm9vZg==", "Zm9vZm8=", "Zm9vZm9v", "Zg=", "Zm9v="} {
		for at := range len(code) {
			for _, c := range allOctets() {
				s := []byte(code)
				s[at] = c
				checkRead(t, s)
			}
		}
	}
}

func TestReadOfEveryPair(t *testing.T) {
	// Two digits, and a third, with what fills up: all bits that must be 0.
	alphabet := []byte(capitals + smalls + numerals + "+/")
	every(alphabet, 2, func(s []byte) {
		checkRead(t, append(slices.Clone(s), "=="...))
		checkRead(t, append(slices.Clone(s), "A="...))
		checkRead(t, append([]byte("A"), append(slices.Clone(s), '=')...))
	})
}

func TestReadOfEveryShortList(t *testing.T) {
	for many := range 9 {
		every([]byte("AB=*"), many, func(s []byte) { checkRead(t, s) })
	}
	for many := range 6 {
		every([]byte("AQgw/E=\n"), many, func(s []byte) { checkRead(t, s) })
	}
}

func TestRightOfWhatTheLibraryReads(t *testing.T) {
	strict := base64.StdEncoding.Strict()
	for many := range 9 {
		every([]byte("Ag8=-"), many, func(s []byte) {
			want, err := strict.DecodeString(string(s))
			if got := Right(s); got != (err == nil) {
				t.Fatalf("Right(%q) = %v, but the library tells %v", s, got, err)
			}
			if got, _ := Read(s); err == nil && !bytes.Equal(got, want) {
				t.Fatalf("Read(%q) = %v, want %v", s, got, want)
			}
		})
	}
}

func TestReadOfLongerLists(t *testing.T) {
	for many := range 300 {
		code := []byte(base64.StdEncoding.EncodeToString(someOctets(many)))
		checkRead(t, code)
		for _, at := range []int{0, many / 2, many, len(code) - 3, len(code) - 2, len(code) - 1} {
			if at < 0 || at >= len(code) {
				continue
			}
			for _, c := range []byte("=*/B\n") {
				other := slices.Clone(code)
				other[at] = c
				checkRead(t, other)
			}
			checkRead(t, slices.Delete(slices.Clone(code), at, at+1))
			checkRead(t, slices.Insert(slices.Clone(code), at, '='))
		}
	}
}

// P14.3

func TestWhatIsLaidIsRead(t *testing.T) {
	check := func(s []byte) {
		code := Lay(s)
		if got, err := Read(code); err != api.OK || !bytes.Equal(got, s) {
			t.Fatalf("%v is laid as %q, and read as %v, %d", s, code, got, err)
		}
		if !Right(code) {
			t.Fatalf("%v is laid as %q, that is not right", s, code)
		}
	}
	for many := range 3 {
		every(allOctets(), many, check)
	}
	every([]byte{0, 1, 63, 64, 127, 128, 254, 255}, 4, check)
	for many := range 300 {
		check(someOctets(many))
	}
}

func TestWhatIsReadIsLaidAsTheSame(t *testing.T) {
	read := 0
	for many := range 9 {
		every([]byte("AQw=/"), many, func(s []byte) {
			got, err := Read(s)
			if err != api.OK {
				return
			}
			read++
			if code := Lay(got); !bytes.Equal(code, s) {
				t.Fatalf("%q is read as %v, and laid as %q", s, got, code)
			}
		})
	}
	if read < 1000 {
		t.Errorf("%d lists are read", read)
	}
}

// R1, R5: nil and empty lists.

func TestNilAndEmpty(t *testing.T) {
	for _, s := range [][]byte{nil, {}, make([]byte, 0, 8)} {
		if got := Lay(s); len(got) != 0 {
			t.Errorf("Lay of nothing = %q", got)
		}
		if got := Bare(s); len(got) != 0 {
			t.Errorf("Bare of nothing = %q", got)
		}
		if got, err := Read(s); len(got) != 0 || err != api.OK {
			t.Errorf("Read of nothing = %q, %d", got, err)
		}
		if !Right(s) {
			t.Errorf("nothing is not right")
		}
	}
}

// R3: the same again, whatever capacity a list has.

func TestSameAnswersAgain(t *testing.T) {
	for many := range 20 {
		s := someOctets(many)
		code := Lay(s)
		for range 3 {
			if !bytes.Equal(Lay(roomy(s)), code) || !bytes.Equal(Bare(roomy(s)), Bare(s)) {
				t.Errorf("%v is laid in another way", s)
			}
			if got, err := Read(roomy(code)); err != api.OK || !bytes.Equal(got, s) {
				t.Errorf("%q is read in another way", code)
			}
		}
	}
}

// R4: lists are left as they are, and answers share nothing.

func TestListsAreLeft(t *testing.T) {
	for _, text := range []string{"", "f", "fo", "foo", "foob", "Zg==", "Zh==", "Zm8=", "Zm9v", "Zm9", "=", "==", "====", "Z*g="} {
		as := []byte(text)
		s := roomy(as)
		Lay(s)
		Bare(s)
		Read(s)
		Right(s)
		if !untouched(s, as) {
			t.Errorf("%q was written into: %q", as, s[:cap(s)])
		}
	}
}

func TestAnswersShareNothing(t *testing.T) {
	calls := []func(s []byte) []byte{
		Lay,
		Bare,
		func(s []byte) []byte { out, _ := Read(s); return out },
	}
	for i, call := range calls {
		for _, text := range []string{"AAAA", "Zg==", "Zm8=", "Zm9vYmFy", "Zm9vYg=="} {
			as := []byte(text)
			s := roomy(as)
			first := call(s)
			want := slices.Clone(first)
			writeOver(first)
			if !untouched(s, as) {
				t.Errorf("call %d of %q answers what it was handed", i, as)
			}
			second := call(s)
			if !bytes.Equal(second, want) {
				t.Errorf("call %d of %q answers %q after a write, %q ahead", i, as, second, want)
			}
			writeOver(s)
			if !bytes.Equal(second, want) {
				t.Errorf("call %d of %q keeps what it was handed", i, as)
			}
		}
	}
}
