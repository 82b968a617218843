package text_test

import (
	"encoding/base64"
	"fmt"
	"math"
	"math/rand/v2"
	"net/url"
	"slices"
	"strings"
	"testing"
	"unicode/utf8"

	"almanac/api"
	"almanac/text"
)

// all is all texts of up to n of the pieces, shortest first.
func all(n int, pieces ...string) []string {
	l := []string{""}
	for from := 0; n > 0; n-- {
		to := len(l)
		for _, s := range l[from:to] {
			for _, p := range pieces {
				l = append(l, s+p)
			}
		}
		from = to
	}
	return l
}

// allBytes is each byte as a text.
func allBytes() []string {
	var l []string
	for b := range 256 {
		l = append(l, string([]byte{byte(b)}))
	}
	return l
}

// drawn is texts of any bytes, some of each length up to 100, and a few long ones, from a fixed seed.
func drawn() []string {
	draw := rand.New(rand.NewPCG(8, 1))
	var l []string
	for n := range 1000 {
		long := n / 10
		if n%100 == 99 {
			long = draw.IntN(20000)
		}
		b := make([]byte, long)
		for i := range b {
			b[i] = byte(draw.Uint32())
		}
		l = append(l, string(b))
	}
	return l
}

// coded is the bytes of a number as UTF-8 has them, in so many bytes, whether that is as few as it takes or not.
func coded(n uint32, long int) string {
	if long == 1 {
		return string([]byte{byte(n)})
	}
	b := make([]byte, long)
	for i := long - 1; i > 0; i-- {
		b[i] = 0x80 | byte(n&0x3f)
		n >>= 6
	}
	b[0] = byte(0xff<<(8-long)) | byte(n)
	return string(b)
}

// fewest is how many bytes a number takes.
func fewest(n uint32) int {
	switch {
	case n < 0x80:
		return 1
	case n < 0x800:
		return 2
	case n < 0x10000:
		return 3
	}
	return 4
}

// TestValidEdges (P8.1): the numbers at which something begins or ends, alone and with others around.
func TestValidEdges(t *testing.T) {
	for _, c := range []struct {
		s    string
		want bool
	}{
		{"", true},
		{"\x00", true},
		{"a", true},
		{"\x7f", true},             // 7f
		{"\xc2\x80", true},         // 80
		{"\xdf\xbf", true},         // 7ff
		{"\xe0\xa0\x80", true},     // 800
		{"\xed\x9f\xbf", true},     // d7ff
		{"\xed\xa0\x80", false},    // d800
		{"\xed\xaf\xbf", false},    // dbff
		{"\xed\xb0\x80", false},    // dc00
		{"\xed\xbf\xbf", false},    // dfff
		{"\xee\x80\x80", true},     // e000
		{"\xef\xbf\xbd", true},     // fffd, which others put where there is none
		{"\xef\xbf\xbf", true},     // ffff
		{"\xf0\x90\x80\x80", true}, // 10000
		{"\xf4\x8f\xbf\xbf", true}, // 10ffff
		{"\xf4\x90\x80\x80", false},
		{"\xf5\x80\x80\x80", false},
		{"\xf7\xbf\xbf\xbf", false},
		{"\xf8\x88\x80\x80\x80", false},
		{"\xfc\x84\x80\x80\x80\x80", false},
		{"\xfe\x83\xbf\xbf\xbf\xbf\xbf", false},
		{"\xff", false},
		{"\xc0\x80", false},
		{"\xc1\xbf", false},
		{"\xe0\x80\x80", false},
		{"\xe0\x9f\xbf", false},
		{"\xf0\x80\x80\x80", false},
		{"\xf0\x8f\xbf\xbf", false},
		{"\x80", false},
		{"\xbf", false},
		{"\xed\xa0\xbd\xed\xb8\x80", false}, // two that mean one elsewhere
	} {
		for _, around := range []string{"", "a", "é", "\u20ac", "\U0001f600", strings.Repeat("x", 9000)} {
			for _, s := range []string{around + c.s, c.s + around, around + c.s + around} {
				if got := text.Valid(s); got != c.want {
					t.Errorf("Valid(%.20q, %d bytes) = %v, want %v", s, len(s), got, c.want)
				}
			}
		}
	}
}

// TestValidNumbers (P8.1, P8.8): all numbers, in as many bytes as they take, in more, and cut off behind each byte.
func TestValidNumbers(t *testing.T) {
	for n := range uint32(0x110100) {
		few := fewest(n)
		s := coded(n, few)
		want := n <= 0x10ffff && (n < 0xd800 || n > 0xdfff)
		if got := text.Valid(s); got != want {
			t.Errorf("Valid(%q) = %v, want %v of %x", s, got, want, n)
		}
		for more := few + 1; more <= 6; more++ {
			if s := coded(n, more); text.Valid(s) {
				t.Errorf("Valid(%q), which is %x in %d bytes", s, n, more)
			}
		}
		for cut := 1; cut < few; cut++ {
			if text.Valid(s[:cut]) || text.Valid(s[cut:]) {
				t.Errorf("Valid of a piece of %q cut at %d", s, cut)
			}
		}
	}
}

// TestValidAll (P8.1): each byte, each pair, all of three and four bytes that matter, and any others, against the library.
func TestValidAll(t *testing.T) {
	l := append(all(2, allBytes()...), drawn()...)
	for _, first := range []string{"\x00", "\x7f", "\x80", "\xbf", "\xc1", "\xc2", "\xdf", "\xe0", "\xe1", "\xec", "\xed", "\xee", "\xef", "\xf0", "\xf1", "\xf3", "\xf4", "\xf5", "\xff"} {
		for _, two := range all(1, allBytes()...) {
			for _, rest := range all(3, "\x00", "\x7f", "\x80", "\xbf", "\xc0", "\xff") {
				l = append(l, first+two+rest)
			}
		}
	}
	for _, s := range l {
		if got, want := text.Valid(s), utf8.ValidString(s); got != want {
			t.Errorf("Valid(%q) = %v, want %v", s, got, want)
		}
	}
}

// TestValidJoined (P8.8): valid texts joined are valid; cut ahead of a number they are, within one not; with one that is not, they are not.
func TestValidJoined(t *testing.T) {
	l := all(3, "a", "\x00", "\x7f", "\u0080", "é", "\u07ff", "\u0800", "\u20ac", "\ud7ff", "\ue000", "\uffff", "\U00010000", "\U0010ffff")
	for _, s := range l {
		if !text.Valid(s) {
			t.Errorf("not Valid(%q)", s)
		}
		for cut := range len(s) + 1 {
			want := cut == len(s) || utf8.RuneStart(s[cut])
			if text.Valid(s[:cut]) != want || text.Valid(s[cut:]) != want {
				t.Errorf("Valid of %q cut at %d is not %v", s, cut, want)
			}
		}
	}
	for _, s := range l {
		for _, wrong := range []string{"\x80", "\xc3", "\xe2\x82", "\xf0\x9f\x98", "\xed\xa0\x80", "\xff"} {
			if text.Valid(s+wrong) || text.Valid(wrong+s) {
				t.Errorf("Valid(%q beside %q)", s, wrong)
			}
		}
	}
}

// TestPercentBytes (P8.2): each byte.
func TestPercentBytes(t *testing.T) {
	const plain = "ABCDEFGHIJKLMNOPQRSTUVWXYZabcdefghijklmnopqrstuvwxyz0123456789-._~/"
	whole, want := "", ""
	for b, s := range allBytes() {
		one := s
		if !strings.Contains(plain, s) {
			one = fmt.Sprintf("%%%02X", b)
		}
		if got := text.Percent(s); got != one {
			t.Errorf("Percent(%q) = %q, want %q", s, got, one)
		}
		whole, want = whole+s, want+one
	}
	if got := text.Percent(whole); got != want {
		t.Errorf("Percent of all bytes = %q, want %q", got, want)
	}
	for s, want := range map[string]string{
		"":            "",
		"a b/é":       "a%20b/%C3%A9",
		"%":           "%25",
		"%20":         "%2520",
		"/a/home.ics": "/a/home.ics",
		"+&=?#":       "%2B%26%3D%3F%23",
		"\xff\x00":    "%FF%00",
	} {
		if got := text.Percent(s); got != want {
			t.Errorf("Percent(%q) = %q, want %q", s, got, want)
		}
	}
}

// TestUnpercentEdges (P8.2): known ones.
func TestUnpercentEdges(t *testing.T) {
	for _, c := range []struct {
		s, want string
		e       api.Errno
	}{
		{"", "", api.OK},
		{"a", "a", api.OK},
		{"a%20b/%C3%A9", "a b/é", api.OK},
		{"%c3%a9%C3%a9%c3%A9", "ééé", api.OK},
		{"%00%ff%FF%fF%Ff", "\x00\xff\xff\xff\xff", api.OK},
		{"%25", "%", api.OK},
		{"%2541", "%41", api.OK}, // once, not again
		{"%25%34%31", "%41", api.OK},
		{"a+b c\x00\xffé?", "a+b c\x00\xffé?", api.OK},
		{"%414", "A4", api.OK},

		{"%", "", api.ErrForm},
		{"a%", "", api.ErrForm},
		{"%4", "", api.ErrForm},
		{"ab%4", "", api.ErrForm},
		{"%%", "", api.ErrForm},
		{"%%41", "", api.ErrForm},
		{"%4%41", "", api.ErrForm},
		{"%41%", "", api.ErrForm},
		{"%41%4", "", api.ErrForm},
		{"%41%4g", "", api.ErrForm},
		{"%g1b", "", api.ErrForm},
		{"%1gb", "", api.ErrForm},
		{"%+1", "", api.ErrForm},
		{"%-1", "", api.ErrForm},
		{"% 1", "", api.ErrForm},
		{"%1 ", "", api.ErrForm},
		{"%0x41", "", api.ErrForm},
		{"%u0041", "", api.ErrForm},
	} {
		if got, e := text.Unpercent(c.s); got != c.want || e != c.e {
			t.Errorf("Unpercent(%q) = %q, %d, want %q, %d", c.s, got, e, c.want, c.e)
		}
	}
}

// TestUnpercentDigits (P8.2): each two bytes behind a %.
func TestUnpercentDigits(t *testing.T) {
	for a := range 256 {
		for b := range 256 {
			s := string([]byte{'x', '%', byte(a), byte(b), 'y'})
			want, e := "", api.ErrForm
			high, low := strings.IndexByte("0123456789abcdef", lowDigit(a)), strings.IndexByte("0123456789abcdef", lowDigit(b))
			if high >= 0 && low >= 0 {
				want, e = string([]byte{'x', byte(16*high + low), 'y'}), api.OK
			}
			if got, f := text.Unpercent(s); got != want || f != e {
				t.Errorf("Unpercent(%q) = %q, %d, want %q, %d", s, got, f, want, e)
			}
		}
	}
}

// lowDigit is a byte, or the small letter of a digit A to F.
func lowDigit(b int) byte {
	if b >= 'A' && b <= 'F' {
		b += 32
	}
	return byte(b)
}

// TestUnpercentAll (P8.2): short texts of the pieces that matter, against the library's.
func TestUnpercentAll(t *testing.T) {
	for _, s := range all(6, "%", "4", "c", "A", "g", "+", "\xe9") {
		want, err := url.PathUnescape(s)
		e := api.OK
		if err != nil {
			want, e = "", api.ErrForm
		}
		if got, f := text.Unpercent(s); got != want || f != e {
			t.Errorf("Unpercent(%q) = %q, %d, want %q, %d", s, got, f, want, e)
		}
	}
}

// TestBase64Known (P8.3).
func TestBase64Known(t *testing.T) {
	for s, want := range map[string]string{
		"":                         "",
		"f":                        "Zg==",
		"fo":                       "Zm8=",
		"foo":                      "Zm9v",
		"foob":                     "Zm9vYg==",
		"fooba":                    "Zm9vYmE=",
		"foobar":                   "Zm9vYmFy",
		"ab":                       "YWI=",
		"\x00":                     "AA==",
		"\x00\x00":                 "AAA=",
		"\x00\x00\x00":             "AAAA",
		"\xff":                     "/w==",
		"\xff\xff":                 "//8=",
		"\xff\xff\xff":             "////",
		"\xfb\xef\xbe":             "++++",
		"\x80":                     "gA==",
		"é":                        "w6k=",
		"a:pa":                     "YTpwYQ==",
		"\x00\x10\x83\x10\x51\x87": "ABCDEFGH",
	} {
		if got := text.Base64(s); got != want {
			t.Errorf("Base64(%q) = %q, want %q", s, got, want)
		}
		if got, e := text.Unbase64(want); got != s || e != api.OK {
			t.Errorf("Unbase64(%q) = %q, %d, want %q", want, got, e, s)
		}
	}
}

// TestBase64Lengths (P8.3): texts of each length, of one byte and of several, against the library.
func TestBase64Lengths(t *testing.T) {
	l := drawn()
	for long := range 100 {
		for _, s := range []string{"\x00", "a", "\x7f", "\x80", "\xc3", "\xff"} {
			l = append(l, strings.Repeat(s, long))
		}
	}
	for _, s := range l {
		if got, want := text.Base64(s), base64.StdEncoding.EncodeToString([]byte(s)); got != want {
			t.Errorf("Base64(%q) = %q, want %q", s, got, want)
		}
	}
}

// TestUnbase64Edges (P8.3): what Base64 makes of no bytes.
func TestUnbase64Edges(t *testing.T) {
	for _, s := range []string{
		"A", "AA", "AAA", "AAAAA", "AAAAAA", "AAAAAAA", // no multiple of four
		"YWI", "Zg", "Zg=", "Zg===", "Zg====", "YWI==", "AAAA=", "AAAA==", "AAAA===", "AAAA====",
		"=", "==", "===", "====", "A===", "AAAAA===", "=AAA", "A=AA", "AA=A", "A==A", "==AA", "=A==", "A=A=", "=AA=", "AA=AAAAA",
		"YWI=YWI=", "Zg==Zg==", "Zg==AAAA", "AAAA====AAAA", "Zg==\x00",
		"YWJ=", "YWK=", "YWL=", "YWJ=YWI=", "Zh==", "Zi==", "Zo==", "Zw==Zg==", "Z/==", "AB==", "AAB=", // bits that are not 0
		"YW-=", "YW_=", "-_-_", "YW I", "YWI ", " YWI", "YW\nI", "YWI=\n", "YWI=\r\n", "\nYWI=", "\r\nYWI=", "YW\r\nI=", "YWI=\x00", "\x00\x00\x00\x00", "\xff\xff\xff\xff", "YWé", "Zm9vZm9*", "Zm9v*m9v", "\xdaWI=", "YWI\xbd",
		"****", "A*==", "AA*=", "*A==", "é==",
	} {
		if got, e := text.Unbase64(s); got != "" || e != api.ErrForm {
			t.Errorf("Unbase64(%q) = %q, %d, want none, %d", s, got, e, api.ErrForm)
		}
	}
	if got, e := text.Unbase64(""); got != "" || e != api.OK {
		t.Errorf("Unbase64 of nothing = %q, %d", got, e)
	}
}

// fromBase64 is what Unbase64 is meant to tell, by the library's reader, which skips ends of lines.
func fromBase64(s string) (string, api.Errno) {
	b, err := base64.StdEncoding.Strict().DecodeString(s)
	if err != nil || strings.ContainsAny(s, "\r\n") {
		return "", api.ErrForm
	}
	return string(b), api.OK
}

// TestUnbase64All (P8.3): each byte in each place, short texts of letters, padding and others, and all ends of one and two bytes.
func TestUnbase64All(t *testing.T) {
	l := append(all(4, "A", "B", "Q", "Z", "a", "g", "w", "z", "0", "9", "+", "/", "=", "-", "_", "\n", "\r", "\x00", "\xc1"), all(9, "A", "=", "!")...)
	for _, s := range []string{"YWJjYWJj", "YWJjYWI=", "YWJjYQ=="} {
		for at := range len(s) {
			for _, b := range allBytes() {
				l = append(l, s[:at]+b+s[at+1:], s[:at]+b+s[at:], s[:at]+s[at+1:])
			}
		}
	}
	const letters = "ABCDEFGHIJKLMNOPQRSTUVWXYZabcdefghijklmnopqrstuvwxyz0123456789+/"
	for _, a := range letters {
		for _, b := range letters {
			l = append(l, string(a)+string(b)+"==")
			for _, c := range letters {
				l = append(l, string(a)+string(b)+string(c)+"=")
			}
		}
	}
	for _, s := range l {
		want, e := fromBase64(s)
		if got, f := text.Unbase64(s); got != want || f != e {
			t.Errorf("Unbase64(%q) = %q, %d, want %q, %d", s, got, f, want, e)
		}
	}
}

// TestLowerBytes (P8.4): each byte.
func TestLowerBytes(t *testing.T) {
	whole, want := "", ""
	for b, s := range allBytes() {
		one := s
		if b >= 'A' && b <= 'Z' {
			one = string(rune(b + 32))
		}
		if got := text.Lower(s); got != one {
			t.Errorf("Lower(%q) = %q, want %q", s, got, one)
		}
		whole, want = whole+s, want+one
	}
	if got := text.Lower(whole); got != want {
		t.Errorf("Lower of all bytes = %q, want %q", got, want)
	}
	for s, want := range map[string]string{
		"":              "",
		"AZaz@[`{09":    "azaz@[`{09",
		"É\u212a\u0130": "É\u212a\u0130", // letters of others than A to Z
		"\xc1\xffA":     "\xc1\xffa",
	} {
		if got := text.Lower(s); got != want {
			t.Errorf("Lower(%q) = %q, want %q", s, got, want)
		}
	}
}

// low is a text with small letters, told otherwise than by Lower.
func low(s string) string {
	for c := 'A'; c <= 'Z'; c++ {
		s = strings.ReplaceAll(s, string(c), string(c+32))
	}
	return s
}

// stands tells whether one text stands in another one, place by place.
func stands(s, in string) bool {
	for at := 0; at+len(s) <= len(in); at++ {
		if in[at:at+len(s)] == s {
			return true
		}
	}
	return false
}

// TestAlikeEdges (P8.4).
func TestAlikeEdges(t *testing.T) {
	for _, c := range []struct {
		a, b string
		want bool
	}{
		{"", "", true},
		{"a", "", false},
		{"a", "a", true},
		{"a", "A", true},
		{"AbC", "aBc", true},
		{"Content-Type", "content-type", true},
		{"a", "aa", false},
		{"ab", "ba", false},
		{"a", "a ", false},
		{"@", "`", false},
		{"[", "{", false},
		{"é", "É", false},
		{"k", "\u212a", false},
		{"s", "\u017f", false},
		{"\xc1", "\xe1", false},
		{"\x00", "", false},
		{"\xff", "\xfe", false},
	} {
		if text.Alike(c.a, c.b) != c.want || text.Alike(c.b, c.a) != c.want {
			t.Errorf("Alike(%q, %q) is not %v", c.a, c.b, c.want)
		}
	}
}

// TestAlikeBytes (P8.4): each two bytes.
func TestAlikeBytes(t *testing.T) {
	for _, a := range allBytes() {
		for _, b := range allBytes() {
			if got, want := text.Alike(a, b), low(a) == low(b); got != want {
				t.Errorf("Alike(%q, %q) = %v, want %v", a, b, got, want)
			}
			if got, want := text.Within(a, "x"+b+"x"), low(a) == low(b) || low(a) == "x"; got != want {
				t.Errorf("Within(%q, %q) = %v, want %v", a, "x"+b+"x", got, want)
			}
		}
	}
}

// TestWithinEdges (P8.4).
func TestWithinEdges(t *testing.T) {
	for _, c := range []struct {
		s, in string
		want  bool
	}{
		{"", "", true},
		{"", "abc", true},
		{"a", "", false},
		{"abcd", "abc", false},
		{"ABC", "abc", true},
		{"aB", "Abc", true},
		{"Bc", "abC", true},
		{"B", "abc", true},
		{"ac", "abc", false},
		{"ba", "abc", false},
		{"aab", "aaaab", true},
		{"abab", "abaabab", true},
		{"é", "CAFÉ", false},
		{"É", "cafÉ", true},
		{"k", "\u212a", false},
		{"\xa9", "é", true}, // bytes, not letters
		{"@", "`", false},
		{"\x00", "a\x00", true},
		{"a b", "xA Bx", true},
	} {
		if got := text.Within(c.s, c.in); got != c.want {
			t.Errorf("Within(%q, %q) = %v, want %v", c.s, c.in, got, c.want)
		}
	}
}

// TestWithinLong (P8.4): at both ends and in the middle of long texts, and of those that nearly are.
func TestWithinLong(t *testing.T) {
	pad := strings.Repeat("aAb", 3000)
	for _, s := range []string{"zZ", "aabZ", "Aabaabaabc", strings.Repeat("bA", 200), strings.Repeat("Aab", 100) + "c"} {
		for _, in := range []string{s + pad, pad + s, pad + s + pad, pad + strings.ToUpper(s), strings.ToUpper(s)} {
			if !text.Within(s, in) {
				t.Errorf("%.20q is not Within %d bytes", s, len(in))
			}
		}
		if text.Within(s, pad) || text.Within(s, s[1:]+pad+s[:len(s)-1]) {
			t.Errorf("%.20q is Within what it is not in", s)
		}
	}
}

// TestWithinAll (P8.4, P8.9): all short texts: as told, reflexive, transitive; both ways only of those that are Alike.
func TestWithinAll(t *testing.T) {
	l := all(3, "a", "A", "b", "\xe9")
	in := map[[2]int]bool{}
	for i, a := range l {
		for j, b := range l {
			got := text.Within(a, b)
			in[[2]int{i, j}] = got
			if want := stands(low(a), low(b)); got != want {
				t.Errorf("Within(%q, %q) = %v, want %v", a, b, got, want)
			}
			if got, want := text.Alike(a, b), low(a) == low(b); got != want {
				t.Errorf("Alike(%q, %q) = %v, want %v", a, b, got, want)
			}
			if got && text.Within(b, a) != text.Alike(a, b) {
				t.Errorf("%q and %q are Within each other, and not Alike", a, b)
			}
		}
		if !in[[2]int{i, i}] {
			t.Errorf("%q is not Within itself", a)
		}
	}
	for i, a := range l {
		for j, b := range l {
			for k, c := range l {
				if in[[2]int{i, j}] && in[[2]int{j, k}] && !in[[2]int{i, k}] {
					t.Errorf("%q Within %q, that Within %q, but not the first in the last", a, b, c)
				}
			}
		}
	}
}

// TestTrimEdges (P8.5).
func TestTrimEdges(t *testing.T) {
	for s, want := range map[string]string{
		"":                        "",
		" ":                       "",
		"\t":                      "",
		" \t \t\t ":               "",
		"a":                       "a",
		" a\t":                    "a",
		"\t a":                    "a",
		"a \t":                    "a",
		" a \t b ":                "a \t b",
		"a b":                     "a b",
		"\na\n":                   "\na\n",
		"\ra\r":                   "\ra\r",
		" \r\na\r\n ":             "\r\na\r\n",
		"\xa0a\xa0":               "\xa0a\xa0",
		"\u00a0a\u00a0":           "\u00a0a\u00a0",
		" \u2003a\u3000\t":        "\u2003a\u3000",
		"\v\fa\f\v":               "\v\fa\f\v",
		"\x00 a \x00":             "\x00 a \x00",
		" \x85 ":                  "\x85",
		"\t\xff ":                 "\xff",
		strings.Repeat(" ", 9000): "",
	} {
		if got := text.Trim(s); got != want {
			t.Errorf("Trim(%q) = %q, want %q", s, got, want)
		}
	}
}

// TestTrimAll (P8.5): each byte at the ends, and all short texts, byte by byte.
func TestTrimAll(t *testing.T) {
	l := all(5, " ", "\t", "a", "\n", "\r", "\xa0", "\x00")
	for _, b := range allBytes() {
		l = append(l, b, b+"x", "x"+b, b+" x "+b, " "+b+"x"+b+"\t")
	}
	for _, s := range l {
		from, to := 0, len(s)
		for from < to && (s[from] == 32 || s[from] == 9) {
			from++
		}
		for to > from && (s[to-1] == 32 || s[to-1] == 9) {
			to--
		}
		if got := text.Trim(s); got != s[from:to] {
			t.Errorf("Trim(%q) = %q, want %q", s, got, s[from:to])
		}
	}
}

// TestNumberEdges (P8.6).
func TestNumberEdges(t *testing.T) {
	const top = 999999999999999999
	for _, c := range []struct {
		s    string
		most int64
		want int64
		ok   bool
	}{
		{"0", 0, 0, true},
		{"7", 9, 7, true},
		{"007", 9, 7, true},
		{"007", 7, 7, true},
		{"010", 10, 10, true},
		{"9", 9, 9, true},
		{"00", 0, 0, true},
		{"999999999999999999", top, top, true},
		{"999999999999999999", math.MaxInt64, top, true},
		{"100000000000000000", math.MaxInt64, 100000000000000000, true},
		{"000000000000000000", 0, 0, true},
		{"000000000000000001", 1, 1, true},
		{"1234567890", math.MaxInt64, 1234567890, true},

		{"10", 9, 0, false},
		{"8", 7, 0, false},
		{"008", 7, 0, false},
		{"1", 0, 0, false},
		{"999999999999999999", top - 1, 0, false},
		{"0", -1, 0, false},
		{"0", math.MinInt64, 0, false},
		{"1", -1, 0, false},
		{"000", -1, 0, false},

		{"", 9, 0, false},
		{"", -1, 0, false},
		{"", math.MaxInt64, 0, false},
		{"1000000000000000000", math.MaxInt64, 0, false}, // 19 digits
		{"0000000000000000000", math.MaxInt64, 0, false},
		{"0000000000000000007", 9, 0, false},
		{"9223372036854775807", math.MaxInt64, 0, false},
		{"18446744073709551617", math.MaxInt64, 0, false},
		{"00000000000000000000000007", 9, 0, false},
		{strings.Repeat("9", 9000), math.MaxInt64, 0, false},
		{strings.Repeat("0", 9000), math.MaxInt64, 0, false},

		{"+7", 9, 0, false},
		{"-7", 9, 0, false},
		{"-0", 9, 0, false},
		{"-1", 9, 0, false},
		{" 7", 9, 0, false},
		{"7 ", 9, 0, false},
		{"7\n", 9, 0, false},
		{"7\x00", 9, 0, false},
		{"1_0", 99, 0, false},
		{"1.0", 99, 0, false},
		{"1e1", 99, 0, false},
		{"0x7", 99, 0, false},
		{"a", 99, 0, false},
		{"7a", 99, 0, false},
		{"\u0663", 99, 0, false},
		{"\uff17", 99, 0, false},
	} {
		if got, ok := text.Number(c.s, c.most); got != c.want || ok != c.ok {
			t.Errorf("Number(%q, %d) = %d, %v, want %d, %v", c.s, c.most, got, ok, c.want, c.ok)
		}
	}
}

// TestNumberBytes (P8.6): each byte ahead of, between and behind digits.
func TestNumberBytes(t *testing.T) {
	for b, s := range allBytes() {
		digit := b >= '0' && b <= '9'
		for _, c := range []struct {
			s    string
			want int64
		}{
			{s, int64(b - '0')},
			{s + "12", int64(b-'0')*100 + 12},
			{"1" + s + "2", int64(b-'0')*10 + 102},
			{"12" + s, int64(b-'0') + 120},
		} {
			want := c.want
			if !digit {
				want = 0
			}
			if got, ok := text.Number(c.s, math.MaxInt64); got != want || ok != digit {
				t.Errorf("Number(%q) = %d, %v, want %d, %v", c.s, got, ok, want, digit)
			}
		}
	}
}

// TestNumberMost (P8.6): numbers of each count of digits, noughts ahead, at most, one below and one above it.
func TestNumberMost(t *testing.T) {
	draw := rand.New(rand.NewPCG(8, 2))
	for n, end := int64(1), 1; end <= 18; n, end = n*10, end+1 {
		for _, x := range []int64{n - 1, n, n + 1, n*10 - 1, n + draw.Int64N(9*n)} {
			s := fmt.Sprint(x)
			for noughts := 0; noughts+len(s) <= 20; noughts++ {
				s := strings.Repeat("0", noughts) + s
				for _, most := range []int64{x - 1, x, x + 1, math.MaxInt64, -x - 1} {
					want, ok := int64(0), x <= most && len(s) <= 18
					if ok {
						want = x
					}
					if got, is := text.Number(s, most); got != want || is != ok {
						t.Errorf("Number(%q, %d) = %d, %v, want %d, %v", s, most, got, is, want, ok)
					}
				}
			}
		}
	}
}

// checkText holds what is told of any two texts against what P8.1 to P8.9 tell of them.
func checkText(t *testing.T, s, in string) {
	t.Helper()
	if got, want := text.Valid(s), utf8.ValidString(s); got != want {
		t.Errorf("Valid(%q) = %v, want %v", s, got, want)
	}
	if got, e := text.Unpercent(text.Percent(s)); got != s || e != api.OK {
		t.Errorf("Unpercent of Percent of %q = %q, %d", s, got, e)
	}
	if got, e := text.Unbase64(text.Base64(s)); got != s || e != api.OK {
		t.Errorf("Unbase64 of Base64 of %q = %q, %d", s, got, e)
	}
	want, e := fromBase64(s)
	if got, f := text.Unbase64(s); got != want || f != e {
		t.Errorf("Unbase64(%q) = %q, %d, want %q, %d", s, got, f, want, e)
	}
	if got, e := text.Unpercent(s); e != api.OK && (e != api.ErrForm || got != "") {
		t.Errorf("Unpercent(%q) = %q, %d", s, got, e)
	}
	if got := text.Lower(s); got != low(s) || text.Lower(got) != got {
		t.Errorf("Lower(%q) = %q", s, got)
	}
	if !text.Alike(s, low(s)) || !text.Within(s, s) || !text.Within(s, in+s+in) {
		t.Errorf("%q is not alike, or within, itself", s)
	}
	if got, want := text.Within(s, in), stands(low(s), low(in)); got != want {
		t.Errorf("Within(%q, %q) = %v, want %v", s, in, got, want)
	}
	if got := text.Trim(" \t" + s + "\t "); got != text.Trim(s) {
		t.Errorf("Trim(%q) = %q with blanks around", s, got)
	}
	if n, ok := text.Number(s, math.MaxInt64); ok && strings.TrimLeft(s, "0") != strings.TrimLeft(fmt.Sprint(n), "0") || !ok && n != 0 {
		t.Errorf("Number(%q) = %d, %v", s, n, ok)
	}
}

// TestThereAndBack (P8.7): what is coded and taken back is the bytes, of all texts of up to two bytes, and of longer ones.
func TestThereAndBack(t *testing.T) {
	l := slices.Concat(all(2, allBytes()...), all(5, "%", "2", "F", "=", "\x00", "\xff"), drawn())
	for i, s := range l {
		checkText(t, s, l[len(l)-1-i])
	}
	for _, s := range allBytes() {
		for _, long := range []int{3, 63, 64, 65, 8192, 8704} {
			checkText(t, strings.Repeat(s, long), s)
		}
	}
}

// FuzzText: any two texts.
func FuzzText(f *testing.F) {
	for _, s := range []string{"", "a b/é", "YWI=", "YWJ=", "%C3%a9", "\xc0\x80", " a\t", "007", "AZ"} {
		f.Add(s, "Aa")
	}
	f.Fuzz(checkText)
}
