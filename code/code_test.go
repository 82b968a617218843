package code_test

import (
	"encoding/binary"
	"hash/crc32"
	"math"
	"math/big"
	"math/rand/v2"
	"strings"
	"testing"

	"almanac/api"
	"almanac/code"
)

// numbers is those at which the count of bytes changes, the least, the greatest, and some of each length between, drawn from a fixed seed.
func numbers() []uint64 {
	l := []uint64{0, 1, 2, 63, 64, 300, math.MaxInt64, math.MaxUint64 - 1, math.MaxUint64}
	draw := rand.New(rand.NewPCG(1, 1))
	for bits := range 64 {
		edge := uint64(1) << bits
		l = append(l, edge-1, edge, edge+1, edge|draw.Uint64()&(edge-1))
	}
	return l
}

// signedNumbers is numbers from both ends of 64 bits.
func signedNumbers() []int64 {
	l := []int64{math.MinInt64, math.MinInt64 + 1, math.MaxInt64, math.MaxInt64 - 1}
	for _, n := range numbers() {
		l = append(l, int64(n), -int64(n))
	}
	return l
}

// texts is texts at which the count of bytes of the length changes, and such as look like what is written.
func texts() []string {
	l := []string{"", "hi", "\x00", "\x80", "\xff\xff", "\x02hi", "a\x00b", "Grüße"}
	for _, n := range []int{1, 126, 127, 128, 129, 8192, 16383, 16384} {
		l = append(l, strings.Repeat("x", n))
	}
	return l
}

// around is what may stand ahead of, and behind, what is written.
var around = []string{"", "\x00", "\x01", "\x7f", "\x80", "\xff", "\x80\x00", "abc", strings.Repeat("\xff", 20)}

// TestCrcKnown (P1.1): sums that are known from elsewhere.
func TestCrcKnown(t *testing.T) {
	known := map[string]uint32{
		"":          0,
		"a":         0xe8b7be43,
		"123456789": 0xcbf43926,
		"\x00":      0xd202ef8d,
		"\xff":      0xff000000,
		"The quick brown fox jumps over the lazy dog": 0x414fa339,
		strings.Repeat("\x00", 128):                   0xc2a8fa9d,
	}
	for s, want := range known {
		if got := code.Crc(s); got != want {
			t.Errorf("Crc(%q) = %08x, want %08x", s, got, want)
		}
	}
}

// TestCrcLibrary (P1.1): each byte alone, and long texts, against the library's sum.
func TestCrcLibrary(t *testing.T) {
	draw := rand.New(rand.NewPCG(2, 1))
	var l []string
	for b := range 256 {
		l = append(l, string([]byte{byte(b)}), string([]byte{byte(b), 0, byte(b)}))
	}
	for long := range 300 {
		b := make([]byte, long)
		for i := range b {
			b[i] = byte(draw.Uint32())
		}
		l = append(l, string(b))
	}
	for _, s := range l {
		if got, want := code.Crc(s), crc32.ChecksumIEEE([]byte(s)); got != want {
			t.Errorf("Crc(%q) = %08x, want %08x", s, got, want)
		}
	}
}

// TestNumberBytes (P1.2): the bytes, at both sides of each length, and as few as it takes.
func TestNumberBytes(t *testing.T) {
	for _, c := range []struct {
		n    uint64
		want string
	}{
		{0, "\x00"},
		{1, "\x01"},
		{127, "\x7f"},
		{128, "\x80\x01"},
		{300, "\xac\x02"},
		{16383, "\xff\x7f"},
		{16384, "\x80\x80\x01"},
		{1<<63 - 1, "\xff\xff\xff\xff\xff\xff\xff\xff\x7f"},
		{1 << 63, "\x80\x80\x80\x80\x80\x80\x80\x80\x80\x01"},
		{math.MaxUint64, "\xff\xff\xff\xff\xff\xff\xff\xff\xff\x01"},
	} {
		if got := code.Number(c.n); got != c.want {
			t.Errorf("Number(%d) = %q, want %q", c.n, got, c.want)
		}
	}
	for _, n := range numbers() {
		if got, want := code.Number(n), string(binary.AppendUvarint(nil, n)); got != want {
			t.Errorf("Number(%d) = %q, want %q", n, got, want)
		}
	}
}

// TestSignedBytes (P1.2): 2x, or -2x - 1 below 0, to both ends of 64 bits.
func TestSignedBytes(t *testing.T) {
	for _, c := range []struct {
		n    int64
		want string
	}{
		{0, "\x00"},
		{-1, "\x01"},
		{1, "\x02"},
		{-2, "\x03"},
		{63, "\x7e"},
		{-64, "\x7f"},
		{64, "\x80\x01"},
		{-65, "\x81\x01"},
		{math.MaxInt64, "\xfe\xff\xff\xff\xff\xff\xff\xff\xff\x01"},
		{math.MinInt64, "\xff\xff\xff\xff\xff\xff\xff\xff\xff\x01"},
	} {
		if got := code.Signed(c.n); got != c.want {
			t.Errorf("Signed(%d) = %q, want %q", c.n, got, c.want)
		}
	}
	for _, n := range signedNumbers() {
		if got, want := code.Signed(n), string(binary.AppendVarint(nil, n)); got != want {
			t.Errorf("Signed(%d) = %q, want %q", n, got, want)
		}
	}
}

// TestTextBytes (P1.2): the length counts bytes, and is a number.
func TestTextBytes(t *testing.T) {
	for s, want := range map[string]string{
		"":                       "\x00",
		"hi":                     "\x02hi",
		"ü":                      "\x02\xc3\xbc",
		"\xff":                   "\x01\xff",
		strings.Repeat("x", 127): "\x7f" + strings.Repeat("x", 127),
		strings.Repeat("x", 128): "\x80\x01" + strings.Repeat("x", 128),
		strings.Repeat("x", 300): "\xac\x02" + strings.Repeat("x", 300),
	} {
		if got := code.Text(s); got != want {
			t.Errorf("Text(%q) = %q, want %q", s, got, want)
		}
	}
}

// readCase is a text, a place in it, and what reading there tells: the number, the place behind, the error.
type readCase struct {
	s   string
	at  int
	n   uint64
	end int
	e   api.Errno
}

// readCases is the edges that P1.3 names.
func readCases() []readCase {
	nine := strings.Repeat("\x80", 9)
	full := strings.Repeat("\xff", 9)
	return []readCase{
		{"\x00", 0, 0, 1, api.OK},
		{"\x7f", 0, 127, 1, api.OK},
		{"\xac\x02", 0, 300, 2, api.OK},
		{"ab\xac\x02cd", 2, 300, 4, api.OK},
		{"\xac\x02", 1, 2, 2, api.OK},
		{"\x00\x00", 0, 0, 1, api.OK},
		{"\x80\x80\x01", 0, 16384, 3, api.OK},
		{nine + "\x01", 0, 1 << 63, 10, api.OK},
		{full + "\x01", 0, math.MaxUint64, 10, api.OK},
		{full + "\x01\xff", 0, math.MaxUint64, 10, api.OK},

		{"", -1, 0, 0, api.ErrPlace},
		{"", 1, 0, 0, api.ErrPlace},
		{"\x01", -1, 0, 0, api.ErrPlace},
		{"\x01", 2, 0, 0, api.ErrPlace},
		{"\x80\x00", 3, 0, 0, api.ErrPlace},
		{"\x01", math.MinInt, 0, 0, api.ErrPlace},
		{"\x01", math.MaxInt, 0, 0, api.ErrPlace},

		{"", 0, 0, 0, api.ErrShort},
		{"\x01", 1, 0, 0, api.ErrShort},
		{"\x80", 0, 0, 0, api.ErrShort},
		{"\x01\xff\xff", 1, 0, 0, api.ErrShort},
		{nine, 0, 0, 0, api.ErrShort},
		{full, 0, 0, 0, api.ErrShort},

		{"\x80\x00", 0, 0, 0, api.ErrForm},
		{"\xff\x00\x01", 0, 0, 0, api.ErrForm},
		{"ab\x80\x80\x00", 2, 0, 0, api.ErrForm},
		{nine + "\x00", 0, 0, 0, api.ErrForm},
		{nine + "\x02", 0, 0, 0, api.ErrForm},
		{full + "\x7f", 0, 0, 0, api.ErrForm},
		{full + "\x80", 0, 0, 0, api.ErrForm}, // it ends too early too, but its tenth byte is above 1
		{full + "\x81", 0, 0, 0, api.ErrForm},
		{nine + "\x80\x01", 0, 0, 0, api.ErrForm},
		{nine + "\x81\x00", 0, 0, 0, api.ErrForm},
		{strings.Repeat("\xff", 100), 0, 0, 0, api.ErrForm},
	}
}

// TestReadNumberEdges (P1.3).
func TestReadNumberEdges(t *testing.T) {
	for _, c := range readCases() {
		n, end, e := code.ReadNumber(c.s, c.at)
		if n != c.n || end != c.end || e != c.e {
			t.Errorf("ReadNumber(%q, %d) = %d, %d, %d, want %d, %d, %d", c.s, c.at, n, end, e, c.n, c.end, c.e)
		}
	}
}

// TestReadSignedEdges (P1.3): the same places and errors, and the number halved.
func TestReadSignedEdges(t *testing.T) {
	for _, c := range readCases() {
		half := int64(c.n / 2)
		if c.n%2 == 1 {
			half = -half - 1
		}
		n, end, e := code.ReadSigned(c.s, c.at)
		if n != half || end != c.end || e != c.e {
			t.Errorf("ReadSigned(%q, %d) = %d, %d, %d, want %d, %d, %d", c.s, c.at, n, end, e, half, c.end, c.e)
		}
	}
}

// asTold reads a number as P1.3 tells it, in numbers of any size.
func asTold(s string, at int) (uint64, int, api.Errno) {
	if at < 0 || at > len(s) {
		return 0, 0, api.ErrPlace
	}
	last := at
	for last < len(s) && s[last] >= 128 {
		last++
	}
	if last-at >= 10 {
		return 0, 0, api.ErrForm
	}
	if last == len(s) {
		return 0, 0, api.ErrShort
	}
	n := new(big.Int)
	for i := last; i >= at; i-- {
		n.Lsh(n, 7).Add(n, big.NewInt(int64(s[i]%128)))
	}
	if s[last] == 0 && last > at || !n.IsUint64() {
		return 0, 0, api.ErrForm
	}
	return n.Uint64(), last + 1, api.OK
}

// checkRead holds what is read at a place against what P1.3 to P1.5 tell of it.
func checkRead(t *testing.T, s string, at int) {
	t.Helper()
	n, end, e := code.ReadNumber(s, at)
	if m, to, f := asTold(s, at); n != m || end != to || e != f {
		t.Errorf("ReadNumber(%q, %d) = %d, %d, %d, want %d, %d, %d", s, at, n, end, e, m, to, f)
	}
	if e == api.OK && code.Number(n) != s[at:end] {
		t.Errorf("Number(%d) = %q, read from %q", n, code.Number(n), s[at:end])
	}
	m, to, f := code.ReadSigned(s, at)
	if to != end || f != e || e != api.OK && m != 0 {
		t.Errorf("ReadSigned(%q, %d) = %d, %d, %d beside ReadNumber's %d, %d", s, at, m, to, f, end, e)
	}
	if f == api.OK && code.Signed(m) != s[at:to] {
		t.Errorf("Signed(%d) = %q, read from %q", m, code.Signed(m), s[at:to])
	}
	checkReadText(t, s, at)
}

// checkReadText does so for a text.
func checkReadText(t *testing.T, s string, at int) {
	t.Helper()
	want, to, f := "", 0, api.OK
	long, start, f := asTold(s, at)
	if f == api.OK && long > uint64(len(s)-start) {
		f = api.ErrShort
	}
	if f == api.OK {
		to = start + int(long)
		want = s[start:to]
	}
	text, end, e := code.ReadText(s, at)
	if text != want || end != to || e != f {
		t.Errorf("ReadText(%q, %d) = %q, %d, %d, want %q, %d, %d", s, at, text, end, e, want, to, f)
	}
	if e == api.OK && code.Text(text) != s[at:end] {
		t.Errorf("Text(%q) = %q, read from %q", text, code.Text(text), s[at:end])
	}
}

// TestReadAll (P1.3, P1.4, P1.5): all short texts of the bytes that matter, behind heads of each length up to the tenth byte, at all places.
func TestReadAll(t *testing.T) {
	tails := []string{""}
	for from := 0; len(tails) < 1000; {
		to := len(tails)
		for _, s := range tails[from:to] {
			for _, b := range []string{"\x00", "\x01", "\x02", "\x7f", "\x80", "\x81", "\xff"} {
				tails = append(tails, s+b)
			}
		}
		from = to
	}
	for head := range 12 {
		for _, tail := range tails {
			s := strings.Repeat("\x80", head) + tail
			for at := -1; at <= len(s)+1; at++ {
				checkRead(t, s, at)
			}
		}
	}
}

// TestReadTextEdges (P1.4).
func TestReadTextEdges(t *testing.T) {
	for _, c := range []struct {
		s    string
		at   int
		want string
		end  int
		e    api.Errno
	}{
		{"\x00", 0, "", 1, api.OK},
		{"\x02hi", 0, "hi", 3, api.OK},
		{"ab\x02hicd", 2, "hi", 5, api.OK},
		{"\x02hi\x00", 3, "", 4, api.OK},
		{"\x80\x01" + strings.Repeat("x", 128), 0, strings.Repeat("x", 128), 130, api.OK},

		{"\x02hi", -1, "", 0, api.ErrPlace},
		{"\x02hi", 4, "", 0, api.ErrPlace},
		{"", 1, "", 0, api.ErrPlace},
		{"\x02hi", math.MaxInt, "", 0, api.ErrPlace},
		{"\x02hi", math.MinInt, "", 0, api.ErrPlace},

		{"", 0, "", 0, api.ErrShort},
		{"\x02hi", 3, "", 0, api.ErrShort},
		{"\x80", 0, "", 0, api.ErrShort},
		{"\x01", 0, "", 0, api.ErrShort},
		{"\x03hi", 0, "", 0, api.ErrShort},
		{"\x80\x01" + strings.Repeat("x", 127), 0, "", 0, api.ErrShort},
		{code.Number(math.MaxInt64) + "hi", 0, "", 0, api.ErrShort},
		{code.Number(math.MaxInt64+1) + "hi", 0, "", 0, api.ErrShort},
		{code.Number(math.MaxUint64) + "hi", 0, "", 0, api.ErrShort},
		{code.Number(math.MaxUint64-1) + "hi", 0, "", 0, api.ErrShort}, // from its end on, 64 bits would lead back into the text

		{"\x82\x00hi", 0, "", 0, api.ErrForm},
		{strings.Repeat("\xff", 9) + "\x02hi", 0, "", 0, api.ErrForm},
	} {
		got, end, e := code.ReadText(c.s, c.at)
		if got != c.want || end != c.end || e != c.e {
			t.Errorf("ReadText(%q, %d) = %q, %d, %d, want %q, %d, %d", c.s, c.at, got, end, e, c.want, c.end, c.e)
		}
	}
}

// TestThereAndBack (P1.5): what was written is read, whatever stands ahead and behind.
func TestThereAndBack(t *testing.T) {
	for _, ahead := range around {
		for _, behind := range around {
			at := len(ahead)
			for _, n := range numbers() {
				w := code.Number(n)
				if got, end, e := code.ReadNumber(ahead+w+behind, at); got != n || end != at+len(w) || e != api.OK {
					t.Errorf("%d between %q and %q is read as %d, %d, %d", n, ahead, behind, got, end, e)
				}
			}
			for _, n := range signedNumbers() {
				w := code.Signed(n)
				if got, end, e := code.ReadSigned(ahead+w+behind, at); got != n || end != at+len(w) || e != api.OK {
					t.Errorf("%d between %q and %q is read as %d, %d, %d", n, ahead, behind, got, end, e)
				}
			}
			for _, s := range texts() {
				w := code.Text(s)
				if got, end, e := code.ReadText(ahead+w+behind, at); got != s || end != at+len(w) || e != api.OK {
					t.Errorf("%q between %q and %q is read as %q, %d, %d", s, ahead, behind, got, end, e)
				}
			}
		}
	}
}

// TestInARow (P1.5): the place behind one thing is where the next one is read.
func TestInARow(t *testing.T) {
	s := ""
	for _, n := range numbers() {
		s += code.Number(n) + code.Signed(int64(n)) + code.Text(code.Number(n))
	}
	at := 0
	for _, n := range numbers() {
		a, one, e := code.ReadNumber(s, at)
		b, two, f := code.ReadSigned(s, one)
		c, three, g := code.ReadText(s, two)
		if a != n || b != int64(n) || c != code.Number(n) || e != api.OK || f != api.OK || g != api.OK {
			t.Fatalf("%d at %d is read as %d, %d, %q, errors %d, %d, %d", n, at, a, b, c, e, f, g)
		}
		at = three
	}
	if at != len(s) {
		t.Errorf("all is read at %d of %d", at, len(s))
	}
}

// TestCutOff (P1.6): what was written, cut off anywhere, whatever stands ahead.
func TestCutOff(t *testing.T) {
	for _, ahead := range around {
		at := len(ahead)
		for _, n := range numbers() {
			w := code.Number(n)
			for cut := range len(w) {
				if got, end, e := code.ReadNumber(ahead+w[:cut], at); got != 0 || end != 0 || e != api.ErrShort {
					t.Errorf("Number(%d) cut off at %d behind %q is read as %d, %d, %d", n, cut, ahead, got, end, e)
				}
			}
		}
		for _, n := range signedNumbers() {
			w := code.Signed(n)
			for cut := range len(w) {
				if got, end, e := code.ReadSigned(ahead+w[:cut], at); got != 0 || end != 0 || e != api.ErrShort {
					t.Errorf("Signed(%d) cut off at %d behind %q is read as %d, %d, %d", n, cut, ahead, got, end, e)
				}
			}
		}
		for _, s := range texts() {
			w := code.Text(s)
			for cut := range len(w) {
				if got, end, e := code.ReadText(ahead+w[:cut], at); got != "" || end != 0 || e != api.ErrShort {
					t.Errorf("Text of %d bytes cut off at %d behind %q is read as %q, %d, %d", len(s), cut, ahead, got, end, e)
				}
			}
		}
	}
}

// FuzzRead (P1.3, P1.4, P1.5): any bytes at any place.
func FuzzRead(f *testing.F) {
	for _, c := range readCases() {
		f.Add(c.s, c.at)
	}
	f.Fuzz(checkRead)
}
