package comp_test

import (
	"fmt"
	"slices"
	"strings"
	"testing"

	"almanac/api"
	"almanac/comp"
	"almanac/line"
)

// TestExamples: the chapter's examples.
func TestExamples(t *testing.T) {
	parses(t, "begin:a\nx:1\nBEGIN:B\nEND:b\nEND:A", of("A", prop("X", "1"), of("B")))
	fails(t, "BEGIN:A\nEND:B", api.ErrMatch)
	fails(t, "BEGIN:A", api.ErrShort)
	fails(t, "X:1", api.ErrForm)
}

// TestParseUnfold (P12.1): what Unfold refuses, whatever else is wrong with it.
func TestParseUnfold(t *testing.T) {
	right := text("BEGIN:A", "X:1", "END:A")
	parses(t, right, of("A", prop("X", "1")))
	for _, blank := range []string{" ", "\t"} {
		fails(t, blank+right, api.ErrForm)
		fails(t, blank, api.ErrForm)
		fails(t, blank+"\nBEGIN", api.ErrForm)
	}
	fails(t, "\n"+right, api.ErrForm)
	fails(t, right+"\n", api.ErrForm)
	fails(t, right+"\r\n", api.ErrForm)
	fails(t, "\n", api.ErrForm)
	fails(t, "BEGIN:A\n\nX:1\nEND:A", api.ErrForm)
	fails(t, "BEGIN:A\nX\n\nEND:A", api.ErrForm) // Unfold's error, though a line ahead is wrong too
	fails(t, "BEGIN:A\nEND:B\n\nX", api.ErrForm)

	long := "X:" + times("x", 1023)
	fails(t, text("BEGIN:A", long, "END:A"), api.ErrLong)
	fails(t, text("BEGIN:A", long[:1000]+"\n "+long[1000:], "END:A"), api.ErrLong)
	fails(t, text(long, "END:A"), api.ErrLong)
	fails(t, text("X:1", long), api.ErrLong)
	fails(t, text("BEGIN:A", "END:B", long), api.ErrLong)
	fails(t, right+long, api.ErrLong)
	parses(t, text("BEGIN:A", long[:1024], "END:A"), of("A", prop("X", times("x", 1022))))

	many := slices.Repeat([]any{prop("X", "1")}, 398)
	parses(t, text("BEGIN:A", times("X:1\n", 397)+"X:1", "END:A"), of("A", many...))
	fails(t, text("BEGIN:A", times("X:1\n", 398)+"X:1", "END:A"), api.ErrMany)
	fails(t, times("X:1\n", 401), api.ErrMany)
	fails(t, times("?\n", 401), api.ErrMany)
	fails(t, times(right, 134), api.ErrMany)

	full := text("BEGIN:A", times("Y:"+times("y", 77)+"\n", 102)+"X:"+times("x", 15), "END:A") // 8192 bytes
	if len(full) != 8192 {
		t.Fatalf("%d bytes", len(full))
	}
	parses(t, full, of("A", append(slices.Repeat([]any{prop("Y", times("y", 77))}, 102), prop("X", times("x", 15)))...))
	fails(t, strings.Replace(full, "xx", "xxx", 1), api.ErrLong)
	fails(t, strings.Replace(full, "END:A\n", "END:A\r\n", 1), api.ErrLong)
	fails(t, full+" ", api.ErrLong)
	fails(t, times("\n", 8193), api.ErrLong)
	fails(t, times("?", 8193), api.ErrLong)
	fails(t, times("BEGIN:A\n", 4000), api.ErrLong)
}

// badLines is lines that line.Parse refuses, with what it tells.
func badLines() map[string]api.Errno {
	return map[string]api.Errno{
		"BEGIN": api.ErrShort, "END": api.ErrShort, "X": api.ErrShort, "X;Y=": api.ErrShort, "BEGIN;X=Y": api.ErrShort, `END;X="`: api.ErrShort,
		"?": api.ErrForm, ":": api.ErrForm, "X Y:1": api.ErrForm, "BEGIN :A": api.ErrForm, "END\t:A": api.ErrForm, "BEGIN;:A": api.ErrForm, "X:\x00": api.ErrForm, "X:\xff": api.ErrForm, "BEGIN:A\x7f": api.ErrForm, "END:A\r\r": api.ErrForm, "BEGIN:\xff": api.ErrForm, "B\u00c9GIN:A": api.ErrForm,
		times("X", 65): api.ErrLong, times("X", 65) + ":": api.ErrLong, "BEGIN;" + times("X", 65) + "=1:A": api.ErrLong,
		"X" + times(";Y=1", 17) + ":": api.ErrMany, "BEGIN" + times(";Y=1", 17) + ":A": api.ErrMany, "END" + times(";Y=1", 17) + ":A": api.ErrMany,
	}
}

// TestParseLine (P12.1): what line.Parse refuses, at each place, is the first error of its line, behind what is right.
func TestParseLine(t *testing.T) {
	right := []string{"BEGIN:A", "X:1", "BEGIN:B", "Y:2", "END:B", "Z:3", "BEGIN:C", "BEGIN:D", "END:D", "END:C", "END:A"}
	for bad, e := range badLines() {
		if _, f := line.Parse(bad); f != e {
			t.Errorf("line.Parse(%.100q): %d, want %d", bad, f, e)
		}
		fails(t, bad, e)
		fails(t, text(bad), e)
		for at := range len(right) + 1 {
			fails(t, text(slices.Insert(slices.Clone(right), at, bad)...), e)
			fails(t, text(slices.Insert(slices.Clone(right), at, bad, "?", "END:Q")...), e)
			fails(t, text(append(slices.Clone(right[:at]), bad)...), e) // and no END
			if at < len(right) {
				fails(t, text(slices.Replace(slices.Clone(right), at, at+1, bad)...), e)
			}
		}
		fails(t, text("BEGIN:A", "END:A", bad, "X:1"), e)
		fails(t, text("BEGIN:A", "END:A", "X:1", bad), api.ErrForm)
		fails(t, text("X:1", bad), api.ErrForm)
		fails(t, text("END:A", bad), api.ErrForm)
		fails(t, text("BEGIN:A", "END:B", bad), api.ErrMatch)
	}
}

// TestParseOutside (P12.1): what stands ahead of a component, and behind a whole one.
func TestParseOutside(t *testing.T) {
	comps := map[string]api.Comp{
		text("BEGIN:A", "END:A"):                                 of("A"),
		text("BEGIN:A", "X:1", "END:A"):                          of("A", prop("X", "1")),
		text("BEGIN:A", "BEGIN:B", "END:B", "END:A"):             of("A", of("B")),
		text("BEGIN:A", "BEGIN:A", "END:A", "X:1", "END:A"):      of("A", of("A"), prop("X", "1")),
		text("BEGIN:BEGIN", "END:BEGIN"):                         of("BEGIN"),
		text("BEGIN:END", "BEGIN:BEGIN", "END:BEGIN", "END:END"): of("END", of("BEGIN")),
	}
	for s, want := range comps {
		parses(t, s, want)
		parses(t, strings.TrimSuffix(s, "\n"), want)
		parses(t, strings.ReplaceAll(s, "\n", "\r\n"), want)
		for _, more := range []string{"X:1", "X:", "BEGIN:A", "BEGIN:B", "END:A", "END:B", "begin:a", "end:a", "BEGIN;X=1:A", "END;X=1:A", "BEGIN:", "END:", "BEGINX:A", "X;Y=1:A", "BEGIN: ", "BEGIN:" + times("A", 65)} {
			fails(t, s+more, api.ErrForm)
			fails(t, text(s+more, "X:1"), api.ErrForm)
			fails(t, text(s+more, "END:A"), api.ErrForm)
			if isBegin := strings.HasPrefix(strings.ToUpper(more), "BEGIN:A") || more == "BEGIN:B"; !isBegin {
				fails(t, text(more), api.ErrForm)
				fails(t, text(more)+s, api.ErrForm)
			}
		}
		for more := range comps {
			fails(t, s+more, api.ErrForm)
			fails(t, s+more+s, api.ErrForm)
			fails(t, s+text("X:1")+more, api.ErrForm)
		}
	}
	fails(t, "", api.ErrShort)
	for _, s := range []string{"BEGINX:A", "BEGI:A", "XBEGIN:A", "BEGIN-:A", "ENDX:A", "A:BEGIN", "X:1"} { // no marks, but properties as others are
		fails(t, s, api.ErrForm)
		p, _ := line.Parse(s)
		parses(t, text("BEGIN:A", s, "END:A"), of("A", p))
	}
}

// TestParseMarks (P12.1): BEGIN and END with parameters, and with each kind of value.
func TestParseMarks(t *testing.T) {
	both := func(value string, is bool) {
		t.Helper()
		great := strings.ToUpper(value)
		for _, c := range []struct {
			s    string
			want api.Comp
		}{
			{text("BEGIN:"+value, "END:"+value), of(great)},
			{text("BEGIN:A", "BEGIN:"+value, "X:1", "END:"+value, "END:A"), of("A", of(great, prop("X", "1")))},
			{text("BEGIN:"+value, "BEGIN:A", "X:1", "END:A", "END:"+value), of(great, of("A", prop("X", "1")))},
		} {
			if is {
				parses(t, c.s, c.want)
			} else {
				fails(t, c.s, api.ErrForm)
			}
		}
		if !is {
			fails(t, text("BEGIN:"+value), api.ErrForm)
			fails(t, text("END:"+value), api.ErrForm)
			fails(t, text("BEGIN:A", "END:"+value), api.ErrForm) // though it is not A either
			fails(t, text("BEGIN:A", "END:"+value, "END:A"), api.ErrForm)
			fails(t, text("BEGIN:A", "BEGIN:B", "END:B", "END:"+value), api.ErrForm)
		}
	}
	for _, value := range []string{"a", "Z", "0", "-", "-9-", "VCALENDAR", "vEvent", "x-Y-9", "BEGIN", "end", times("a", 64), times("Z", 63) + "-"} {
		both(value, true)
	}
	for _, value := range []string{"", " ", "A ", " A", "\tA", "A\t", "A B", "A:", ":A", "A:B", ":", "A;B=C", "A;B=C:D", ";B=C", `A;B="`, `"A"`, `A"`, "A,B", "A=", "A_", "A.B", "A/", "A\\", "\u00c9", "a\u00e9", "\u0131", "\u017f", "\u212a", "K\u212a", "\u00a0", "\ufeffA", times("A", 65), times("a", 66), times("A", 128), times("A", 1000), times("A", 64) + ":", times("A", 63) + "\u00e9"} {
		both(value, false)
	}
	for b := range 128 {
		if b >= ' ' && b < 127 || b == '\t' {
			one := string(rune(b))
			for _, value := range []string{one, one + "A", "A" + one, "A" + one + "b", times("A", 63) + one, one + times("A", 63)} {
				both(value, nameExp.MatchString(value))
			}
		}
	}
	for n := rune(128); n <= 0x10ffff; n += 1 + n/200 {
		both(string(n), false)
		both("A"+string(n), false)
	}
	for long := range 140 {
		both(times("n", long), long >= 1 && long <= 64)
	}
	for _, params := range []string{";X=1", ";X=", ";X=1,2", `;X="a:b"`, ";X=1;Y=2", ";VALUE=TEXT", times(";X=1", 16), ";begin=a"} {
		for _, value := range []string{"A", "", "B", times("A", 65)} {
			fails(t, text("BEGIN"+params+":"+value, "END:A"), api.ErrForm)
			fails(t, text("BEGIN:A", "END"+params+":"+value), api.ErrForm)
			fails(t, text("BEGIN:A", "BEGIN"+params+":"+value, "END:A", "END:A"), api.ErrForm)
			fails(t, text("BEGIN:A", "BEGIN:B", "END"+params+":"+value, "END:A"), api.ErrForm)
			fails(t, text("begin"+params+":"+value), api.ErrForm)
			fails(t, text("Begin:A", "eNd"+params+":"+value), api.ErrForm)
		}
	}
}

// TestParseLetters (P12.1, P12.7): BEGIN, END and names in small letters, great ones and both.
func TestParseLetters(t *testing.T) {
	spelt := func(s string) []string {
		return []string{s, strings.ToLower(s), s[:1] + strings.ToLower(s[1:]), strings.ToLower(s[:1]) + s[1:]}
	}
	want := of("VC-1", prop("DTSTART", "x:Y", param("TZID", "Z", "z")), of("VE"))
	for _, begin := range spelt("BEGIN") {
		for _, end := range spelt("END") {
			for _, one := range spelt("VC-1") {
				for _, other := range spelt("VC-1") {
					for _, in := range spelt("VE") {
						for _, name := range spelt("DTSTART") {
							parses(t, text(begin+":"+one, name+";tzID=Z,z:x:Y", "BEGIN:"+in, end+":VE", end+":"+other), want)
						}
					}
				}
			}
		}
	}
	parses(t, text("begin:a", "X:begin", "Y:end:a", "END:A"), of("A", prop("X", "begin"), prop("Y", "end:a"))) // values stay as they are
}

// chain is lines of so many components in one another, each of its own name.
func chain(n int) []string {
	var l []string
	for i := range n {
		l = append(l, fmt.Sprint("BEGIN:D", i))
	}
	for i := range n {
		l = append(l, fmt.Sprint("END:D", n-1-i))
	}
	return l
}

// innermost is the component that chain's lines have innermost.
func innermost(n int, parts ...any) api.Comp { return of(fmt.Sprint("D", n-1), parts...) }

// TestParseDeep (P12.1): 12 components in one another, and 13, wherever the deep ones stand.
func TestParseDeep(t *testing.T) {
	for n := 1; n <= 20; n++ {
		l := chain(n)
		if n <= 12 {
			parses(t, text(l...), within(innermost(n), n-1))
			parses(t, text(slices.Insert(slices.Clone(l), n, "X:1")...), within(innermost(n, prop("X", "1")), n-1))
			fails(t, text(l[:n]...), api.ErrShort)
			continue
		}
		fails(t, text(l...), api.ErrDeep)
		fails(t, text(l[:13]...), api.ErrDeep)
		fails(t, text(l[:12]...), api.ErrShort)
		fails(t, text(slices.Insert(slices.Clone(l), 12, "X:1")...), api.ErrDeep)
		fails(t, text(slices.Insert(slices.Clone(l), 12, "X")...), api.ErrShort) // the line ahead
		fails(t, text(slices.Insert(slices.Clone(l), 13, "X")...), api.ErrDeep)
	}
	twelve, ends := text(chain(12)[:12]...), text(chain(12)[12:]...)
	fails(t, twelve+"BEGIN:", api.ErrForm)
	fails(t, twelve+"BEGIN;X=1:A", api.ErrForm)
	fails(t, twelve+"BEGIN:A B", api.ErrForm)
	fails(t, twelve+"BEGIN:"+times("A", 65), api.ErrForm)
	fails(t, twelve+"BEGIN:"+times("A", 64), api.ErrDeep)
	fails(t, twelve+"begin:d11", api.ErrDeep)
	fails(t, twelve+"BEGIN", api.ErrShort)
	fails(t, twelve+"END:D10", api.ErrMatch)
	fails(t, twelve+"X:1", api.ErrShort)
	fails(t, twelve+ends+"BEGIN:A", api.ErrForm)
	fails(t, twelve+"END:D11\nBEGIN:A\nBEGIN:B", api.ErrDeep)
	fails(t, twelve+"END:D11\nEND:D10\nBEGIN:A\nBEGIN:B\nBEGIN:C", api.ErrDeep)
	parses(t, twelve+times("END:D11\nBEGIN:D11\n", 100)+ends, within(of("D10", slices.Repeat([]any{of("D11")}, 101)...), 10))

	eleven := slices.Repeat(chain(11), 15)
	parses(t, text(slices.Concat([]string{"BEGIN:R"}, eleven, []string{"END:R"})...), of("R", slices.Repeat([]any{within(innermost(11), 10)}, 15)...))
	fails(t, text(slices.Concat([]string{"BEGIN:R", "BEGIN:R"}, eleven, []string{"END:R", "END:R"})...), api.ErrDeep)
}

// TestParseMatch (P12.1): an END that does not end the component that it stands in.
func TestParseMatch(t *testing.T) {
	for _, name := range []string{"B", "AA", "A-", "-", "A1", "VA", "BEGIN", "END", times("A", 64)} {
		fails(t, text("BEGIN:A", "END:"+name), api.ErrMatch)
		fails(t, text("BEGIN:"+name, "END:A"), api.ErrMatch)
		fails(t, text("BEGIN:A", "X:1", "END:"+name, "END:A"), api.ErrMatch)
		fails(t, text("BEGIN:A", "BEGIN:A", "END:"+name, "END:A"), api.ErrMatch)
		fails(t, text("BEGIN:"+name, "BEGIN:A", "END:"+name, "END:A"), api.ErrMatch)          // the one around
		fails(t, text("BEGIN:"+name, "BEGIN:A", "END:A", "END:A", "END:"+name), api.ErrMatch) // one that has ended
		fails(t, text("BEGIN:A", "BEGIN:A", "END:A", "END:"+name), api.ErrMatch)
		fails(t, text("BEGIN:A", "END:"+name, "X:1"), api.ErrMatch)
		fails(t, text("END:"+name), api.ErrForm)
		fails(t, text("END:"+name, "BEGIN:"+name), api.ErrForm)
	}
	parses(t, text("BEGIN:A", "BEGIN:A", "END:A", "END:A"), of("A", of("A")))
}

// TestParseShort (P12.1): a text that ends ahead of its END, within one component and within several.
func TestParseShort(t *testing.T) {
	l := []string{"BEGIN:A", "X:1", "BEGIN:B", "BEGIN:C", "Y:2", "END:C", "END:B", "BEGIN:B", "END:B", "Z:3", "END:A"}
	for n := range len(l) {
		s := text(l[:n]...)
		if n == 0 {
			s = ""
		}
		fails(t, s, api.ErrShort)
		fails(t, strings.TrimSuffix(s, "\n"), api.ErrShort)
		if n > 0 {
			fails(t, text(append(slices.Clone(l[:n]), "X:1")...), api.ErrShort)
		}
	}
	parses(t, text(l...), of("A", prop("X", "1"), prop("Z", "3"), of("B", of("C", prop("Y", "2"))), of("B")))
	fails(t, times("BEGIN:A\n", 12), api.ErrShort)
	fails(t, "BEGIN:A\n"+times("X:1\n", 399), api.ErrShort)
}

// TestParseFirst (P12.1): of several faults the first one, line by line, and in a line as the chapter names them.
func TestParseFirst(t *testing.T) {
	twelve := times("BEGIN:A\n", 12)
	faults := []struct {
		s string
		e api.Errno
	}{
		{"?", api.ErrForm}, {"X", api.ErrShort}, {times("X", 65), api.ErrLong}, {"X" + times(";Y=1", 17) + ":", api.ErrMany}, {"BEGIN:", api.ErrForm}, {"END;X=1:A", api.ErrForm}, {"BEGIN:A", api.ErrDeep}, {"END:B", api.ErrMatch},
	}
	for _, a := range faults {
		for _, b := range faults {
			fails(t, twelve+text(a.s, b.s), a.e)
			fails(t, twelve+text("X:1", a.s, "X:1", b.s, "END:A"), a.e)
			fails(t, twelve+text("END:A", "BEGIN:A", a.s, b.s), a.e)
		}
		fails(t, text("X:1", a.s), api.ErrForm)
		fails(t, text("END:A", a.s), api.ErrForm)
		fails(t, text("BEGIN:A", "END:A", "X:1", a.s), api.ErrForm)
		fails(t, text("BEGIN:A", "END:A", "BEGIN:A", a.s), api.ErrForm)
		fails(t, twelve+text(a.s)+"\n", api.ErrForm) // Unfold's comes first
		fails(t, twelve+text(a.s)+"X:"+times("x", 1023), api.ErrLong)
		fails(t, twelve+text(a.s)+times("X:1\n", 400), api.ErrMany)
		fails(t, twelve+text(a.s)+times("x", 8192), api.ErrLong)
	}
	fails(t, text("BEGIN:A", "END;X=1:B"), api.ErrForm)
	fails(t, text("BEGIN:A", "END:B", "END:A", "X:1"), api.ErrMatch)
	fails(t, text("BEGIN:A", "END:A", "BEGIN"), api.ErrShort)
	fails(t, text("END"), api.ErrShort)
}

// TestParseOrder (P12.1): properties and components in any order, each told in its own.
func TestParseOrder(t *testing.T) {
	const most = 8
	for n := range most + 1 {
		for which := range 1 << n {
			l, want := []string{"BEGIN:R"}, of("R")
			for i := range n {
				if which>>i&1 == 0 {
					l = append(l, fmt.Sprint("X:", i))
					want.Props = append(want.Props, prop("X", fmt.Sprint(i)))
				} else {
					l = append(l, "BEGIN:C", fmt.Sprint("I:", i), "END:C")
					want.Comps = append(want.Comps, of("C", prop("I", fmt.Sprint(i))))
				}
			}
			parses(t, text(append(l, "END:R")...), want)
		}
	}
	parses(t, text("BEGIN:A", "X:1", "x:1", "X:1", "BEGIN:B", "END:B", "BEGIN:b", "END:B", "END:A"), of("A", prop("X", "1"), prop("X", "1"), prop("X", "1"), of("B"), of("B")))
	parses(t, text("BEGIN:A", "BEGIN:B", "X:1", "BEGIN:C", "X:2", "END:C", "X:3", "END:B", "X:4", "BEGIN:C", "END:C", "X:5", "END:A"),
		of("A", of("B", prop("X", "1"), of("C", prop("X", "2")), prop("X", "3")), prop("X", "4"), of("C"), prop("X", "5")))
}

// allOf hands out all lists of up to n of the lines, as texts.
func allOf(n int, lines ...string) func(func(string) bool) {
	var more func(s string, n int, yield func(string) bool) bool
	more = func(s string, n int, yield func(string) bool) bool {
		if !yield(s) {
			return false
		}
		for _, one := range lines {
			if n > 0 && !more(s+one+"\n", n-1, yield) {
				return false
			}
		}
		return true
	}
	return func(yield func(string) bool) { more("", n, yield) }
}

// TestParseAll (P12.1, P12.6): all short texts of the lines that matter.
func TestParseAll(t *testing.T) {
	for s := range allOf(8, "BEGIN:A", "END:A", "X:1") {
		likeModel(t, s)
	}
	for s := range allOf(6, "BEGIN:A", "end:a", "begin:b", "END:B", "X:1") {
		likeModel(t, s)
	}
	for s := range allOf(4, "BEGIN:A", "END:A", "END:B", "X:1", "X", "?", "BEGIN;X=1:A", "END:", "", " 1") {
		likeModel(t, s)
	}
	lines := []string{"BEGIN:A", "END:A", "END:B", "X:1", "BEGIN:"}
	for s := range allOf(4, lines...) {
		likeModel(t, times("BEGIN:A\n", 11)+s)
		likeModel(t, times("BEGIN:A\n", 11)+s+times("END:A\n", 11))
		likeModel(t, times("BEGIN:A\n", 12)+s+times("END:A\n", 12))
	}
}

// TestParseBytes (P12.1): each byte at each place of a text.
func TestParseBytes(t *testing.T) {
	const s = "BEGIN:A\r\nX;Y=1:2\nbegin:b-\nEND:B\r\n -\nZ:\nEND:a\n"
	parses(t, s, of("A", prop("X", "2", param("Y", "1")), of("B-"), prop("Z", "")))
	for at := range len(s) + 1 {
		for b := range 256 {
			one := string([]byte{byte(b)})
			likeModel(t, s[:at]+one+s[at:])
			if at < len(s) {
				likeModel(t, s[:at]+one+s[at+1:])
			}
		}
		for to := at; to <= len(s); to++ {
			likeModel(t, s[at:to])
			likeModel(t, s[:at]+s[to:])
		}
	}
}

// TestParseFolds (P12.7): a line may be folded at each place but its beginning.
func TestParseFolds(t *testing.T) {
	l := []string{"BEGIN:VC", "X;Y=1,\"2;\":\u00e9 z", "begin:ve", "Z:", "END:VE", "END:VC"}
	want := of("VC", prop("X", "\u00e9 z", param("Y", "1", "2;")), of("VE", prop("Z", "")))
	parses(t, text(l...), want)
	for _, fold := range []string{"\n ", "\r\n ", "\n\t", "\r\n\t", "\n \n ", "\r\n \n\t\r\n "} {
		for i, one := range l {
			for at := 1; at <= len(one); at++ {
				parses(t, text(slices.Replace(slices.Clone(l), i, i+1, one[:at]+fold+one[at:])...), want)
			}
			fails(t, text(slices.Replace(slices.Clone(l), 0, 1, " "+one)...), api.ErrForm)
		}
		var all []string
		for _, one := range l {
			all = append(all, strings.Join(strings.Split(one, ""), fold))
		}
		parses(t, text(all...), want)
	}
}

// TestParseMemory (0.5): two calls tell no memory of one another's.
func TestParseMemory(t *testing.T) {
	s := text("BEGIN:A", "X;Y=1,2:3", "BEGIN:B", "Z;Y=1:2", "END:B", "BEGIN:C", "END:C", "END:A")
	a, _ := comp.Parse(s)
	b, _ := comp.Parse(s)
	areApart(t, "two calls of Parse", append(memories(a), memories(b)...)...)
}
