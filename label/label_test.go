package label

import (
	"bytes"
	"math"
	"slices"
	"strings"
	"testing"

	"sheave/api"
)

// charsetNames are the names of the charsets 1 to 5, as the document has them.
var charsetNames = [][]string{
	nil,
	{"us-ascii", "ascii", "ansi_x3.4-1968", "iso646-us"},
	{"iso-8859-1", "iso_8859-1", "latin1", "l1"},
	{"iso-8859-15", "iso_8859-15", "latin-9"},
	{"windows-1252", "cp1252"},
	{"utf-8", "utf8"},
}

// codingNames are the names of the transfer encodings 1 to 3.
var codingNames = []string{"", "7bit", "quoted-printable", "base64"}

// none are numbers that are neither a charset nor a transfer encoding.
var none = []int{
	0, -1, -2, -5, 6, 7, 255, 256, 257, 261, 65537, 65541, 1<<32 + 1, 1<<32 + 5, -1<<32 + 1,
	math.MinInt32, math.MaxInt32, math.MinInt64, math.MinInt64 + 1, math.MaxInt64,
}

// plain is a text without blanks at its ends and with small letters, worked
// out octet by octet.
func plain(s string) string {
	for s != "" && (s[0] == 32 || s[0] == 9) {
		s = s[1:]
	}
	for s != "" && (s[len(s)-1] == 32 || s[len(s)-1] == 9) {
		s = s[:len(s)-1]
	}
	folded := []byte(s)
	for i, c := range folded {
		if c >= 65 && c <= 90 {
			folded[i] = c + 32
		}
	}
	return string(folded)
}

// wantedCharset tells by the list of names what Charset answers.
func wantedCharset(s string) (int, api.Errno) {
	name, _, _ := strings.Cut(s, "*")
	for charset, names := range charsetNames {
		if slices.Contains(names, plain(name)) {
			return charset, 0
		}
	}
	return 0, 10
}

// wantedCoding tells by the list of names what Coding answers.
func wantedCoding(s string) (int, api.Errno) {
	if coding := slices.Index(codingNames[1:], plain(s)); coding >= 0 {
		return coding + 1, 0
	}
	return 0, 11
}

// check holds what Charset and Coding answer against the lists of names.
func check(t *testing.T, s string) {
	t.Helper()
	want, wantErr := wantedCharset(s)
	if n, e := Charset([]byte(s)); n != want || e != wantErr {
		t.Fatalf("Charset(%q) = %d, %d", s, n, e)
	}
	want, wantErr = wantedCoding(s)
	if n, e := Coding([]byte(s)); n != want || e != wantErr {
		t.Fatalf("Coding(%q) = %d, %d", s, n, e)
	}
}

// allNames are the names of all charsets and transfer encodings.
func allNames() []string {
	return append(slices.Concat(charsetNames...), codingNames[1:]...)
}

// allCases are a text with each choice of its letters great.
func allCases(s string) []string {
	all := []string{""}
	for _, c := range s {
		small, great := string(c), strings.ToUpper(string(c))
		ends := []string{small}
		if great != small {
			ends = append(ends, great)
		}
		var longer []string
		for _, head := range all {
			for _, end := range ends {
				longer = append(longer, head+end)
			}
		}
		all = longer
	}
	return all
}

// texts are all texts of up to most of some octets.
func texts(of string, most int) []string {
	all := []string{""}
	from := 0
	for range most {
		to := len(all)
		for _, head := range all[from:to] {
			for i := range len(of) {
				all = append(all, head+of[i:i+1])
			}
		}
		from = to
	}
	return all
}

// every is the text of all octets.
func every() string {
	all := make([]byte, 256)
	for i := range all {
		all[i] = byte(i)
	}
	return string(all)
}

// neighbours are texts that differ from one in an octet that is put for
// another one, put between, or left out.
func neighbours(s string) []string {
	var all []string
	for at := range len(s) + 1 {
		for c := range 256 {
			octet := string([]byte{byte(c)})
			all = append(all, s[:at]+octet+s[at:])
			if at < len(s) {
				all = append(all, s[:at]+octet+s[at+1:])
			}
		}
		if at < len(s) {
			all = append(all, s[:at]+s[at+1:])
		}
	}
	return all
}

// P11.1

func TestCharsetOfEachName(t *testing.T) {
	for charset := 1; charset <= 5; charset++ {
		for _, name := range charsetNames[charset] {
			if n, e := Charset([]byte(name)); n != charset || e != api.OK {
				t.Errorf("Charset(%q) = %d, %d", name, n, e)
			}
		}
	}
}

func TestExample(t *testing.T) {
	if n, e := Charset([]byte(" UTF8 *en")); n != 5 || e != 0 {
		t.Errorf("Charset of the example = %d, %d", n, e)
	}
}

func TestBlanksAndLanguagesPlayNoPart(t *testing.T) {
	heads := texts(" \t", 3)
	tails := append(texts(" \t", 3), "*", "*en", " *en", "\t *", "**", "*en*fr", " *en * ", "*\x00\r\n\xff", "* utf-8", "*us-ascii", "*utf-8\t")
	for charset, names := range charsetNames {
		for _, name := range names {
			for _, head := range heads {
				for _, tail := range tails {
					s := head + name + tail
					if n, e := Charset([]byte(s)); n != charset || e != api.OK {
						t.Errorf("Charset(%q) = %d, %d", s, n, e)
					}
				}
			}
		}
	}
}

func TestNoCharset(t *testing.T) {
	for _, s := range []string{
		"", " ", "\t", " \t ", "*", " * ", "*en", "*utf-8", " *utf8", "* utf-8 ", "**",
		"utf", "utf-", "utf-88", "utf-7", "utf-16", "utf 8", "utf_8", "utf- 8", "u tf8", "utf\t8", "utf-8;", "\"utf-8\"", "utf-8'en'",
		"utf-8\r", "utf-8\n", "\nutf-8", "\r\n utf-8", "utf-8\x00", "\x00utf-8", "utf-8\v", "utf-8\f", "\xA0utf-8", "utf-8\xA0", "utf-8\xC2\xA0",
		"utf-8\n*en", "u*tf-8", "utf*-8", "us-asci\xC4\xB0", "us-asc\xC4\xB1i", "u\xC5\xBF-ascii", "lat\xC4\xB0n1", "iso-8859-\xEF\xBC\x91",
		"us_ascii", "usascii", "us-ascii ascii", "ansi-x3.4-1968", "ansi_x3.4", "iso646", "646-us",
		"iso-8859-", "iso-8859-2", "iso-8859-9", "iso-8859-16", "iso-8859-151", "iso8859-1", "iso 8859-1", "iso-8859_1", "latin-1", "latin2", "l2", "l9", "l", "1",
		"latin9", "latin_9", "iso-8859-15-1", "windows1252", "windows-1251", "windows_1252", "windows-125", "cp-1252", "cp1251", "cp1252 1", "win", "1252",
		"7bit", "quoted-printable", "base64", "8bit", "binary", "5", "\x05",
	} {
		if n, e := Charset([]byte(s)); n != 0 || e != 10 {
			t.Errorf("Charset(%q) = %d, %d", s, n, e)
		}
	}
}

func TestNameIsTheFirst(t *testing.T) {
	for charset, want := range map[int]string{1: "us-ascii", 2: "iso-8859-1", 3: "iso-8859-15", 4: "windows-1252", 5: "utf-8"} {
		if got := Name(charset); got != want {
			t.Errorf("Name(%d) = %q", charset, got)
		}
	}
}

func TestNamesInTheirOrder(t *testing.T) {
	for charset := 1; charset <= 5; charset++ {
		if got := Names(charset); !slices.Equal(got, charsetNames[charset]) {
			t.Errorf("Names(%d) = %q", charset, got)
		}
	}
}

func TestNamesOfNoCharset(t *testing.T) {
	for _, n := range none {
		if Name(n) != "" || len(Names(n)) != 0 {
			t.Errorf("%d has the name %q, and %q", n, Name(n), Names(n))
		}
	}
}

func TestIsCharset(t *testing.T) {
	for n := -300; n <= 300; n++ {
		if got := IsCharset(n); got != (n >= 1 && n <= 5) {
			t.Errorf("IsCharset(%d) = %v", n, got)
		}
	}
	for _, n := range none {
		if IsCharset(n) {
			t.Errorf("IsCharset(%d)", n)
		}
	}
}

func TestBare(t *testing.T) {
	for s, want := range map[string]string{
		"":                    "",
		" \t ":                "",
		"*":                   "",
		" * ":                 "",
		"*en":                 "",
		"\t *en":              "",
		"utf-8":               "utf-8",
		" UTF8 *en":           "UTF8",
		"\t \tLatin1\t \t":    "Latin1",
		"a*b*c":               "a",
		"a *b* c ":            "a",
		"a b\tc * d":          "a b\tc",
		"a\r\n":               "a\r\n",
		"\n a":                "\n a",
		" \x00\xFF\xC3\xA9 *": "\x00\xFF\xC3\xA9",
		"\xA0a\xA0":           "\xA0a\xA0",
		"no charset":          "no charset",
		"utf-8'en'":           "utf-8'en'",
	} {
		if got := Bare([]byte(s)); string(got) != want {
			t.Errorf("Bare(%q) = %q", s, got)
		}
	}
}

func TestBareOfEachOctet(t *testing.T) {
	for c := range 256 {
		octet := string([]byte{byte(c)})
		inner, outer := octet, "a"+octet+"a"
		switch octet {
		case " ", "\t":
			inner = ""
		case "*":
			inner, outer = "", "a"
		}
		if got := Bare([]byte(octet)); string(got) != inner {
			t.Errorf("Bare(%q) = %q", octet, got)
		}
		if got := Bare([]byte("a" + octet + "a")); string(got) != outer {
			t.Errorf("Bare(%q) = %q", "a"+octet+"a", got)
		}
	}
}

func TestBareOfShortTexts(t *testing.T) {
	for _, s := range texts(" \t*aZ\n", 6) {
		want, _, _ := strings.Cut(s, "*")
		want = strings.Trim(want, " \t")
		if got := Bare([]byte(s)); string(got) != want {
			t.Fatalf("Bare(%q) = %q", s, got)
		}
	}
}

// P11.2

func TestCodingOfEachName(t *testing.T) {
	for coding := 1; coding <= 3; coding++ {
		for _, head := range texts(" \t", 3) {
			for _, tail := range texts(" \t", 3) {
				s := head + codingNames[coding] + tail
				if n, e := Coding([]byte(s)); n != coding || e != api.OK {
					t.Errorf("Coding(%q) = %d, %d", s, n, e)
				}
			}
		}
	}
}

func TestNoCoding(t *testing.T) {
	for _, s := range []string{
		"", " ", "\t", " \t ", "*", "7", "7bits", "7 bit", "7-bit", "bit7", "7\tbit", "8bit", "binary", "x-uuencode",
		"quoted", "quoted printable", "quoted_printable", "quotedprintable", "quoted-printable;", "quoted-\tprintable", "quoted-printabl", "q", "b",
		"base", "base-64", "base 64", "base32", "base641", "b64",
		"7bit\r", "7bit\n", "\n7bit", "7bit\x00", "\x007bit", "base64\v", "\xA0base64", "base64\xA0", "ba\xC5\xBFe64", "7b\xC4\xB0t",
		"7bit*", "7bit*en", "7bit *en", "*7bit", "base64*en", "base64 *", "quoted-printable*en",
		"utf-8", "us-ascii", "l1", "1", "\x01",
	} {
		if n, e := Coding([]byte(s)); n != 0 || e != 11 {
			t.Errorf("Coding(%q) = %d, %d", s, n, e)
		}
	}
}

func TestCodingName(t *testing.T) {
	for coding, want := range map[int]string{1: "7bit", 2: "quoted-printable", 3: "base64", 4: "", 5: ""} {
		if got := CodingName(coding); got != want {
			t.Errorf("CodingName(%d) = %q", coding, got)
		}
	}
	for _, n := range none {
		if got := CodingName(n); got != "" {
			t.Errorf("CodingName(%d) = %q", n, got)
		}
	}
}

func TestIsCoding(t *testing.T) {
	for n := -300; n <= 300; n++ {
		if got := IsCoding(n); got != (n >= 1 && n <= 3) {
			t.Errorf("IsCoding(%d) = %v", n, got)
		}
	}
	for _, n := range none {
		if IsCoding(n) {
			t.Errorf("IsCoding(%d)", n)
		}
	}
}

// P11.1 and P11.2 of many texts

func TestShortTexts(t *testing.T) {
	for _, s := range texts(every(), 2) {
		check(t, s)
	}
	for _, s := range texts("lL1 \t*\x00", 5) {
		check(t, s)
	}
}

func TestNeighboursOfNames(t *testing.T) {
	for _, name := range allNames() {
		for _, s := range neighbours(name) {
			check(t, s)
		}
	}
}

func TestPiecesOfNames(t *testing.T) {
	for _, name := range allNames() {
		for from := range len(name) + 1 {
			for to := from; to <= len(name); to++ {
				check(t, name[from:to])
			}
		}
		for _, other := range allNames() {
			for _, between := range []string{"", " ", "\t", "-", "*", " * ", ",", "\x00"} {
				check(t, name+between+other)
			}
		}
	}
}

func TestLongTexts(t *testing.T) {
	blanks := strings.Repeat(" \t", 50000)
	check(t, blanks)
	check(t, blanks+"utf-8"+blanks+"*"+blanks)
	check(t, blanks+"base64"+blanks)
	check(t, "utf-8"+blanks+"x")
	check(t, strings.Repeat("utf-8", 20000))
	check(t, "utf-8"+strings.Repeat("*utf-8", 20000))
}

// P11.3

func TestNamesAreTheirCharsetsInEachCase(t *testing.T) {
	for charset := 1; charset <= 5; charset++ {
		for _, name := range Names(charset) {
			for _, s := range allCases(name) {
				if n, e := Charset([]byte(s)); n != charset || e != api.OK {
					t.Fatalf("Charset(%q) = %d, %d", s, n, e)
				}
			}
		}
		if n, e := Charset([]byte(Name(charset))); n != charset || e != api.OK {
			t.Errorf("the charset of %q is %d, %d", Name(charset), n, e)
		}
	}
}

func TestCodingsInEachCase(t *testing.T) {
	for coding := 1; coding <= 3; coding++ {
		for _, s := range allCases(CodingName(coding)) {
			if n, e := Coding([]byte(s)); n != coding || e != api.OK {
				t.Fatalf("Coding(%q) = %d, %d", s, n, e)
			}
		}
	}
}

func TestNoTwoCharsetsHaveAName(t *testing.T) {
	owners := map[string]int{}
	for charset := -10; charset <= 10; charset++ {
		for _, name := range Names(charset) {
			if owner, met := owners[plain(name)]; met {
				t.Errorf("%q is a name of %d and of %d", name, owner, charset)
			}
			owners[plain(name)] = charset
		}
	}
	if len(owners) != 15 {
		t.Errorf("there are %d names", len(owners))
	}
}

// R3

func TestAnswersHangOnArgumentsAlone(t *testing.T) {
	for range 20 {
		for _, s := range append(allNames(), "", "none", " UTF8 *en") {
			check(t, s)
		}
		for charset := 1; charset <= 5; charset++ {
			if !slices.Equal(Names(charset), charsetNames[charset]) {
				t.Fatalf("Names(%d) = %q", charset, Names(charset))
			}
		}
	}
}

// R4

func TestArgumentsAreLeft(t *testing.T) {
	for _, text := range []string{" UTF8 *en", "ISO-8859-1", "BASE64 ", "None*X", " "} {
		room := append([]byte(text), "\tAB*"...)
		s := room[:len(text)]
		Charset(s)
		Coding(s)
		_ = append(Bare(s), 9)
		if string(room) != text+"\tAB*" {
			t.Errorf("%q is left as %q", text, room)
		}
	}
}

func TestBareSharesNothing(t *testing.T) {
	for _, text := range []string{"", " ", "a", "utf-8", " Utf-8", "Utf-8 ", "utf-8*en", " \tutf-8 *en "} {
		s := append(make([]byte, 0, 64), text...)
		answer := Bare(s)
		want := string(answer)
		answer = answer[:cap(answer)]
		for i := range answer {
			answer[i] = 'X'
		}
		if string(s) != text || bytes.IndexByte(s[:cap(s)], 'X') >= 0 {
			t.Errorf("writing into Bare(%q) leaves %q", text, s)
		}
		second := Bare(s)
		clear(s)
		if string(second) != want {
			t.Errorf("Bare(%q) turns from %q to %q", text, want, second)
		}
	}
}

func TestNamesAreTheCallers(t *testing.T) {
	for charset := 1; charset <= 5; charset++ {
		first := Names(charset)
		again := Names(charset)
		first = first[:cap(first)]
		for i := range first {
			first[i] = "utf-7"
		}
		if want := charsetNames[charset]; !slices.Equal(again, want) || !slices.Equal(Names(charset), want) || Name(charset) != want[0] {
			t.Errorf("the names of %d are turned: %q, %q", charset, again, Names(charset))
		}
		if n, e := Charset([]byte(charsetNames[charset][0])); n != charset || e != api.OK {
			t.Errorf("the charset of %q is turned: %d, %d", charsetNames[charset][0], n, e)
		}
	}
	if _, e := Charset([]byte("utf-7")); e != api.ErrCharset {
		t.Errorf("a name is added: %d", e)
	}
}

func TestSpareCapacityPlaysNoPart(t *testing.T) {
	if n, e := Charset([]byte("utf-88*en")[:5]); n != 5 || e != api.OK {
		t.Errorf("Charset = %d, %d", n, e)
	}
	if n, e := Charset([]byte("utf-8")[:4]); n != 0 || e != api.ErrCharset {
		t.Errorf("Charset = %d, %d", n, e)
	}
	if n, e := Coding([]byte("7bits")[:4]); n != 1 || e != api.OK {
		t.Errorf("Coding = %d, %d", n, e)
	}
	if got := Bare([]byte("a b")[:2]); string(got) != "a" {
		t.Errorf("Bare = %q", got)
	}
}

// R5

func TestNilAndEmpty(t *testing.T) {
	for _, s := range [][]byte{nil, {}} {
		if n, e := Charset(s); n != 0 || e != 10 {
			t.Errorf("Charset of nothing = %d, %d", n, e)
		}
		if n, e := Coding(s); n != 0 || e != 11 {
			t.Errorf("Coding of nothing = %d, %d", n, e)
		}
		if got := Bare(s); len(got) != 0 {
			t.Errorf("Bare of nothing = %q", got)
		}
	}
}
