package line_test

import (
	"fmt"
	"math/rand/v2"
	"slices"
	"strings"
	"testing"
	"unicode/utf8"

	"almanac/api"
	"almanac/line"
)

// checkUnfold holds what Unfold tells against what it is to tell.
func checkUnfold(t *testing.T, s string, want []string, e api.Errno) {
	t.Helper()
	got, f := line.Unfold(s)
	if f != e || !slices.Equal(got, want) || e != api.OK && got != nil {
		t.Errorf("Unfold(%.200q), of %d bytes, = %.300q (%d), %d, want %.300q (%d), %d", s, len(s), fmt.Sprint(got), len(got), f, fmt.Sprint(want), len(want), e)
	}
	if again, _ := modelUnfold(s); e == api.OK && !slices.Equal(again, want) {
		t.Errorf("the model of Unfold(%.200q) is %.200q", s, again)
	}
}

// unfolds asks for these lines.
func unfolds(t *testing.T, s string, want ...string) {
	t.Helper()
	checkUnfold(t, s, want, api.OK)
}

// unfoldFails asks for this error.
func unfoldFails(t *testing.T, s string, e api.Errno) {
	t.Helper()
	checkUnfold(t, s, nil, e)
}

// unfoldLikeModel holds it against the model.
func unfoldLikeModel(t *testing.T, s string) {
	t.Helper()
	want, e := modelUnfold(s)
	checkUnfold(t, s, want, e)
}

// times is a text so many times.
func times(s string, n int) string { return strings.Repeat(s, n) }

// all hands out all texts of up to n of the pieces.
func all(n int, pieces ...string) func(func(string) bool) {
	return func(yield func(string) bool) { allOf("", n, pieces, yield) }
}

func allOf(s string, n int, pieces []string, yield func(string) bool) bool {
	if !yield(s) {
		return false
	}
	for _, p := range pieces {
		if n > 0 && !allOf(s+p, n-1, pieces, yield) {
			return false
		}
	}
	return true
}

// TestExamples: the chapter's examples.
func TestExamples(t *testing.T) {
	p, e := line.Parse(`dtstart;tzid="a:b":20250101`)
	if want := (api.Prop{Name: "DTSTART", Params: []api.Param{{Name: "TZID", Values: []string{"a:b"}}}, Value: "20250101"}); e != api.OK || !alike(p, want) {
		t.Errorf("Parse = %q, %d, want %q", p, e, want)
	}
	if _, e := line.Parse("a"); e != api.ErrShort {
		t.Errorf(`Parse("a"): %d`, e)
	}
	if _, e := line.Parse("a b:"); e != api.ErrForm {
		t.Errorf(`Parse("a b:"): %d`, e)
	}
	unfolds(t, "A:b\r\n c\nD:e", "A:bc", "D:e")
	unfoldFails(t, " a", api.ErrForm)
}

// TestUnfoldEnds (P11.1): lines end by CR LF or LF, and by nothing else; behind the last end nothing stands.
func TestUnfoldEnds(t *testing.T) {
	unfolds(t, "")
	for _, s := range []string{"a", "A:b", "é", "\x00", "\xff", "\ra", "a\rb", "\x7f", ":", "a b", "a\tb", "\v", "\f", "\u0085", "\u2028", "\u00a0a", "\x0b a"} {
		unfolds(t, s, s)
		for _, end := range []string{"\n", "\r\n"} {
			unfolds(t, s+end, s)
			unfolds(t, s+end+"b", s, "b")
			unfolds(t, s+end+"b\n", s, "b")
			unfolds(t, s+end+"b\r\n", s, "b")
			unfolds(t, s+end+s+end+s, s, s, s)
		}
	}
	unfolds(t, "\r", "\r")
	unfolds(t, "\r\r", "\r\r")
	unfolds(t, "a\r", "a\r")
	unfolds(t, "a\rb\r", "a\rb\r")
	unfolds(t, "a\r\r\n", "a\r")
	unfolds(t, "a\r\r\nb", "a\r", "b")
	unfolds(t, "a\r\r\r\nb\r\r", "a\r\r", "b\r\r")
	unfolds(t, "\r\r\n", "\r")
	unfolds(t, "a\n\r", "a", "\r")
	unfolds(t, "a\n\rb", "a", "\rb")
	unfolds(t, "a\r\n\r", "a", "\r")
}

// TestUnfoldGoesOn (P11.1): a line that begins with a byte 32 or 9 goes on with the one ahead, without that byte.
func TestUnfoldGoesOn(t *testing.T) {
	for _, blank := range []string{" ", "\t"} {
		for _, end := range []string{"\n", "\r\n"} {
			on := end + blank
			unfolds(t, "a"+on, "a")
			unfolds(t, "a"+on+"b", "ab")
			unfolds(t, "a"+on+"b"+end, "ab")
			unfolds(t, "a"+on+" b", "a b")
			unfolds(t, "a"+on+"\tb", "a\tb")
			unfolds(t, "a"+on+"b"+on+"c"+end+"d"+on+"e", "abc", "de")
			unfolds(t, "a"+on+on+on+"b", "ab")
			unfolds(t, "a"+on+end+"b", "a", "b")
			unfolds(t, "a"+on+"\r\r\nb", "a\r", "b")
			unfolds(t, "a"+on+"\r", "a\r")
			unfolds(t, "a "+on+" b", "a  b")
			unfolds(t, "a\r\r\n"+blank+"b", "a\rb")
			unfolds(t, "\xc3"+on+"\xa9", "é") // within a number
			unfoldFails(t, blank, api.ErrForm)
			unfoldFails(t, blank+end, api.ErrForm)
			unfoldFails(t, blank+"a", api.ErrForm)
			unfoldFails(t, blank+"a"+end+"b", api.ErrForm)
			unfoldFails(t, blank+end+"b", api.ErrForm)
			unfoldFails(t, blank+on+"b", api.ErrForm)
			unfoldFails(t, blank+blank, api.ErrForm)
		}
	}
	unfolds(t, "a\r\n b\n\tc", "abc")
	unfolds(t, "a\r b", "a\r b")       // no end ahead of the blank
	unfolds(t, "a\n\r b", "a", "\r b") // a CR ahead of it
	unfolds(t, "a\n\vb\n\u00a0c", "a", "\vb", "\u00a0c")
}

// TestUnfoldEmpty (P11.1): a line that is empty, and that no other one goes on with, is wrong wherever it stands.
func TestUnfoldEmpty(t *testing.T) {
	for _, end := range []string{"\n", "\r\n"} {
		for _, s := range []string{"~", "~~", "~~~", "~a", "~a~", "a~~", "a~~b", "a~~b~", "a~~~b", "a~b~~", "~~a", "a~~~", "~ ", "~\t", "~ ~", "~ ~b", "a~~ ", "a~~ ~", "a~~\t~b", "a~~ ~ ~\tb~~", "~ ~\t~ "} {
			unfoldFails(t, strings.ReplaceAll(s, "~", end), api.ErrForm)
		}
		for s, want := range map[string][]string{
			"~ a":         {"a"},
			"~\ta":        {"a"},
			"~ a~":        {"a"},
			"~  ":         {" "},
			"~ ~ ~ a":     {"a"},
			"~ ~ a~b":     {"a", "b"},
			"a~~ b":       {"a", "b"},
			"a~~ b~":      {"a", "b"},
			"a~~\tb~c":    {"a", "b", "c"},
			"a~~ ~ b~~ c": {"a", "b", "c"},
			"a~ ~b":       {"a", "b"},
			"a~\t":        {"a"},
			"a~ ~ ~":      {"a"},
		} {
			unfolds(t, strings.ReplaceAll(s, "~", end), want...)
		}
	}
}

// TestUnfoldMany (P11.1): 400 whole lines, and more.
func TestUnfoldMany(t *testing.T) {
	for _, one := range []string{"a", "ab", "a\n b", "\n a", "\n \n\ta", "a\n "} {
		whole := strings.NewReplacer("\n ", "", "\n\t", "").Replace(one)
		for _, end := range []string{"\n", "\r\n"} {
			lines := times(one+end, 400)
			if len(lines) > 8000 {
				t.Fatalf("%d bytes", len(lines))
			}
			want := slices.Repeat([]string{whole}, 400)
			unfolds(t, times(one+end, 399)+one, want...)
			unfolds(t, lines, want...)
			unfolds(t, lines+" ", want...)
			unfolds(t, lines+" c", append(want[:399:399], whole+"c")...)
			unfolds(t, lines+"\tc\n c\n", append(want[:399:399], whole+"cc")...)

			unfoldFails(t, lines+one, api.ErrMany)
			unfoldFails(t, lines+one+end, api.ErrMany)
			unfoldFails(t, lines+one+end+one, api.ErrMany)
			unfoldFails(t, lines+one+end+end, api.ErrMany)
			unfoldFails(t, lines+one+end+end+one, api.ErrMany)
			unfoldFails(t, lines+"\r", api.ErrMany)
			unfoldFails(t, lines+end+" c", api.ErrMany) // the 401st one is not empty as a whole
			unfoldFails(t, lines+end+" "+end+"\tc"+end, api.ErrMany)
			unfoldFails(t, lines+end+"  ", api.ErrMany)

			unfoldFails(t, lines+end, api.ErrForm)
			unfoldFails(t, lines+end+end, api.ErrForm)
			unfoldFails(t, lines+end+one, api.ErrForm)
			unfoldFails(t, lines+end+" ", api.ErrForm)
			unfoldFails(t, lines+end+" "+end+one, api.ErrForm)

			unfoldFails(t, times(one+end, 399)+end, api.ErrForm)
			unfoldFails(t, times(one+end, 399)+end+one, api.ErrForm) // the empty one is the 400th
			unfoldFails(t, times(one+end, 398)+end+one+end+one, api.ErrForm)
			unfoldFails(t, end+lines, api.ErrForm)
			unfoldFails(t, " "+lines, api.ErrForm)
			unfoldFails(t, " "+lines+one, api.ErrForm)
		}
	}
	for n := range 410 {
		unfoldLikeModel(t, times("a\n", n))
		unfoldLikeModel(t, times("a\n", n)+"\n")
		unfoldLikeModel(t, times("a\n", n)+"\n"+times("b\n", 400-n/2))
		unfoldLikeModel(t, times("a\n", n)+" "+times("x", 1024)+"\nb\n\n")
		unfoldLikeModel(t, times("a\n", 405-n/2)+times("\n", n%3)+times("b\r\n", n))
	}
	unfoldFails(t, times("\n", 401), api.ErrForm)
	unfoldFails(t, times("a\n", 4096), api.ErrMany)
	unfoldFails(t, times("\n", 8192), api.ErrForm)
	unfolds(t, times("a\n ", 1024), times("a", 1024)) // many pieces are one line
	unfolds(t, times("a\n\n ", 399)+"a", slices.Repeat([]string{"a"}, 400)...)
	unfoldFails(t, times("a\n\n ", 400)+"a", api.ErrMany)
}

// TestUnfoldLong (P11.1): whole lines of 1024 bytes and one more, of one piece and of many.
func TestUnfoldLong(t *testing.T) {
	for long := 1020; long <= 1030; long++ {
		for _, piece := range []int{1, 2, 3, 70, 75, 500, 1000, 1023, 1024, 1025, 2000} {
			for _, on := range []string{"\n ", "\n\t", "\r\n "} {
				whole, s := times("x", long), ""
				for i := 0; i < long; i += piece {
					s += on + whole[i:min(long, i+piece)]
				}
				s = s[len(on):]
				for _, around := range [][2]string{{"", ""}, {"", "\r\n"}, {"a\n", ""}, {"a\nb\n", "\nc\n"}, {times("a\n", 399), ""}, {"", on}, {"\n ", ""}, {"", on + on + "\nc"}} {
					text := around[0] + s + around[1]
					switch want, e := modelUnfold(text); {
					case len(text) > 8192:
						unfoldFails(t, text, api.ErrLong)
					case long > 1024:
						unfoldFails(t, text, api.ErrLong)
					case e != api.OK || !slices.Contains(want, whole):
						t.Errorf("the model of %d bytes tells %d", long, e)
					default:
						unfolds(t, text, want...)
					}
				}
			}
		}
	}
	unfolds(t, times("é", 512), times("é", 512))
	unfoldFails(t, times("é", 512)+"x", api.ErrLong)
	unfolds(t, times("x", 1024)+"\r\n", times("x", 1024)) // ends do not count
	unfoldFails(t, times("x", 1024)+"\r", api.ErrLong)    // what is none does
	unfoldFails(t, times("x", 1024)+"\r\r\n", api.ErrLong)
	unfolds(t, "x\n "+times("y", 1023), "x"+times("y", 1023))
	unfoldFails(t, "x\n "+times("y", 1024), api.ErrLong)
	unfoldFails(t, "x\n  "+times("y", 1023), api.ErrLong) // the second blank counts
}

// TestUnfoldText (P11.1): texts of 8192 bytes and one more, right ones and wrong ones.
func TestUnfoldText(t *testing.T) {
	for _, begin := range []string{"", "a\n", " a\n", "\n", "a\n\n", times("a\n", 401), times("x", 1025) + "\n", "\xff\n"} {
		s := begin
		for len(s) < 8192 {
			s += times("y", 62) + "\r\n"
		}
		for _, text := range []string{s[:8192], s[:8191] + "\n", s[:8191] + "\r", s[:8190] + "\n\n"} {
			unfoldLikeModel(t, text)
			for _, more := range []string{"x", "\n", " ", "\r\n", "\x00", "\xff", text, times("x", 1<<20)} {
				unfoldFails(t, text+more, api.ErrLong)
				unfoldFails(t, more+text, api.ErrLong)
			}
		}
	}
	s := times(times("x", 62)+"\r\n", 128)
	unfolds(t, s, slices.Repeat([]string{times("x", 62)}, 128)...)
	unfolds(t, s[:len(s)-2]+"zz", append(slices.Repeat([]string{times("x", 62)}, 127), times("x", 62)+"zz")...)
	unfoldFails(t, times("\n", 8193), api.ErrLong)
	unfoldFails(t, times("a", 8193), api.ErrLong)
	unfoldFails(t, times(" ", 8193), api.ErrLong)
}

// TestUnfoldFirst (P11.1): of several faults the first one, line by line.
func TestUnfoldFirst(t *testing.T) {
	long := times("x", 1025)
	many := times("a\n", 400)
	for _, c := range []struct {
		s string
		e api.Errno
	}{
		{" " + long, api.ErrForm}, // in one line, as the chapter names them
		{"\t" + long + "\n\n", api.ErrForm},
		{"\n" + long, api.ErrForm},
		{long + "\n\n", api.ErrLong},
		{long + "\n\nb", api.ErrLong},
		{long + "\n" + times("a\n", 400), api.ErrLong},
		{"a\n\n" + long, api.ErrForm},
		{"a\n" + long + "\n\n", api.ErrLong},
		{many + long, api.ErrMany},
		{many + "\n " + long, api.ErrMany},
		{many + long + "\n\n", api.ErrMany},
		{many + "\n" + long, api.ErrForm},
		{many[2:] + long + "\n", api.ErrLong},
		{many[2:] + long + "\nb", api.ErrLong},
		{many[2:] + long + "\n\n", api.ErrLong},
		{many[2:] + "\n" + long, api.ErrForm},
		{many[2:] + "\nb\n" + long, api.ErrForm},
		{many[2:] + "a\n " + long, api.ErrLong},
		{many[2:] + "a\n " + long + "\nb", api.ErrLong},
		{many + " " + long + "\nb", api.ErrLong}, // the 400th goes on
		{many + "b\n\n" + long, api.ErrMany},
		{"\n" + many + "b", api.ErrForm},
		{" \n" + many + "b", api.ErrForm},
		{long + "\n" + many + "b", api.ErrLong},
	} {
		unfoldFails(t, c.s, c.e)
		if _, e := modelUnfold(c.s); e != c.e {
			t.Errorf("the model of %.100q tells %d, want %d", c.s, e, c.e)
		}
	}
}

// TestUnfoldAll (P11.1): all short texts of the pieces that matter, and drawn longer ones.
func TestUnfoldAll(t *testing.T) {
	for s := range all(8, "\n", "\r", " ", "a") {
		unfoldLikeModel(t, s)
	}
	for s := range all(6, "\r\n", "\n", "\t", " ", "\r", "a", ":") {
		unfoldLikeModel(t, s)
	}
	draw := rand.New(rand.NewPCG(11, 1))
	for range 5000 {
		var b strings.Builder
		ends := []string{"\n", "\r\n", "\n ", "\r\n\t", "\n", "\n\n "}[:2+draw.IntN(5)]
		faulty := draw.IntN(3) == 0
		for n := draw.IntN(450); n > 0 && b.Len() < 8000; n-- {
			long := 1 + draw.IntN([]int{3, 20, 20, 80}[draw.IntN(4)])
			if faulty && draw.IntN(200) == 0 {
				long = []int{0, 1020, 1024, 1025}[draw.IntN(4)]
			}
			b.WriteString(times([]string{"x", "y", "é", "\r", "z "}[draw.IntN(5)], long))
			b.WriteString(ends[draw.IntN(len(ends))])
		}
		unfoldLikeModel(t, b.String())
	}
}

// TestUnfoldBytes (P11.1): each byte at each place of a text.
func TestUnfoldBytes(t *testing.T) {
	const s = "A:b\r\n c\nD:e\r\n\tf\r\n g\nH\n"
	for at := range len(s) + 1 {
		for b := range 256 {
			one := string([]byte{byte(b)})
			unfoldLikeModel(t, s[:at]+one+s[at:])
			if at < len(s) {
				unfoldLikeModel(t, s[:at]+one+s[at+1:])
			}
		}
		for to := at; to <= len(s); to++ {
			unfoldLikeModel(t, s[at:to])
			unfoldLikeModel(t, s[:at]+s[to:])
		}
	}
}

// TestUnfoldMemory (0.5): two calls tell no memory of one another's.
func TestUnfoldMemory(t *testing.T) {
	a, _ := line.Unfold("a\nb\n c\n")
	b, _ := line.Unfold("a\nb\n c\n")
	a[0], a[1] = "x", "y"
	_ = append(a[:1], "z")
	if !slices.Equal(b, []string{"a", "bc"}) {
		t.Errorf("Unfold tells %q", b)
	}
}

// checkFold holds what Fold tells against the model, and against what is promised of its pieces.
func checkFold(t *testing.T, l ...string) {
	t.Helper()
	given := slices.Clone(l)
	got := line.Fold(l)
	if want := modelFold(given); got != want {
		t.Errorf("Fold(%.300q) = %.300q, want %.300q", l, got, want)
	}
	if !slices.Equal(l, given) {
		t.Errorf("Fold changed %.300q into %.300q", given, l)
	}
	for _, whole := range given {
		checkPieces(t, whole)
	}
}

// checkPieces asks of the pieces of one line that they be it, at most 75 bytes each, as many as may be, cut within no number (P11.2, P11.9).
func checkPieces(t *testing.T, whole string) {
	t.Helper()
	l := strings.Split(line.Fold([]string{whole}), "\r\n")
	if strings.Contains(whole, "\r\n") || strings.HasSuffix(whole, "\r") {
		return // its own are told apart from Fold's by the model alone
	}
	if l[len(l)-1] != "" {
		t.Errorf("Fold(%.300q) has no end", whole)
	}
	l = l[:len(l)-1]
	at := 0
	for i, piece := range l {
		if len(piece) > 75 {
			t.Errorf("Fold(%.300q) has a piece of %d bytes", whole, len(piece))
		}
		room := 75 - len(piece)
		if i > 0 {
			if piece == "" || piece[0] != ' ' {
				t.Errorf("Fold(%.300q) has the piece %q", whole, piece)
				return
			}
			piece = piece[1:]
		}
		if !strings.HasPrefix(whole[at:], piece) {
			t.Errorf("Fold(%.300q) has the piece %q at %d", whole, piece, at)
			return
		}
		at += len(piece)
		if at < len(whole) {
			if _, next := utf8.DecodeRuneInString(whole[at:]); next <= room || isWithin(whole, at) {
				t.Errorf("Fold(%.300q) is cut at %d, where %d bytes are left", whole, at, room)
			}
		}
	}
	if at != len(whole) {
		t.Errorf("Fold(%.300q) is but %d bytes", whole, at)
	}
}

// TestFoldKnown (P11.2): known ones.
func TestFoldKnown(t *testing.T) {
	x := func(n int) string { return times("x", n) }
	for _, c := range []struct {
		l    []string
		want string
	}{
		{nil, ""},
		{[]string{}, ""},
		{[]string{""}, "\r\n"},
		{[]string{"", ""}, "\r\n\r\n"},
		{[]string{"a"}, "a\r\n"},
		{[]string{"a", "b"}, "a\r\nb\r\n"},
		{[]string{" a", "\tb"}, " a\r\n\tb\r\n"},
		{[]string{"a\n", "\r", "\r\n"}, "a\n\r\n\r\r\n\r\n\r\n"},
		{[]string{x(74)}, x(74) + "\r\n"},
		{[]string{x(75)}, x(75) + "\r\n"},
		{[]string{x(76)}, x(75) + "\r\n x\r\n"},
		{[]string{x(148)}, x(75) + "\r\n " + x(73) + "\r\n"},
		{[]string{x(149)}, x(75) + "\r\n " + x(74) + "\r\n"},
		{[]string{x(150)}, x(75) + "\r\n " + x(74) + "\r\n x\r\n"},
		{[]string{x(223)}, x(75) + "\r\n " + x(74) + "\r\n " + x(74) + "\r\n"},
		{[]string{x(224)}, x(75) + "\r\n " + x(74) + "\r\n " + x(74) + "\r\n x\r\n"},
		{[]string{x(1024)}, x(75) + times("\r\n "+x(74), 12) + "\r\n " + x(61) + "\r\n"},
		{[]string{x(76), "", x(75)}, x(75) + "\r\n x\r\n\r\n" + x(75) + "\r\n"},
		{[]string{x(75) + " y"}, x(75) + "\r\n  y\r\n"},
		{[]string{x(75) + "\ty"}, x(75) + "\r\n \ty\r\n"},
		{[]string{x(74) + "é"}, x(74) + "\r\n é\r\n"},
		{[]string{x(73) + "é"}, x(73) + "é\r\n"},
		{[]string{x(73) + "éy"}, x(73) + "é\r\n y\r\n"},
		{[]string{x(72) + "\U0001f600y"}, x(72) + "\r\n \U0001f600y\r\n"},
		{[]string{x(71) + "\U0001f600y"}, x(71) + "\U0001f600\r\n y\r\n"},
		{[]string{x(75) + x(73) + "é"}, x(75) + "\r\n " + x(73) + "\r\n é\r\n"},
		{[]string{x(75) + x(72) + "é"}, x(75) + "\r\n " + x(72) + "é\r\n"},
		{[]string{x(74) + "\xc3"}, x(74) + "\xc3\r\n"},
		{[]string{x(74) + "\xc3\xc3"}, x(74) + "\xc3\r\n \xc3\r\n"},
		{[]string{x(74) + "\xa9\xa9"}, x(74) + "\xa9\r\n \xa9\r\n"},
		{[]string{x(74) + "\xe2\x82"}, x(74) + "\xe2\r\n \x82\r\n"},
		{[]string{x(74) + "\xe2\x82\xac"}, x(74) + "\r\n \u20ac\r\n"},
		{[]string{x(73) + "\xed\xa0\x80"}, x(73) + "\xed\xa0\r\n \x80\r\n"}, // none of UTF-8
		{[]string{x(74) + "\xc0\x80"}, x(74) + "\xc0\r\n \x80\r\n"},
	} {
		if got := line.Fold(c.l); got != c.want {
			t.Errorf("Fold(%.200q) = %.300q, want %.300q", c.l, got, c.want)
		}
		checkFold(t, c.l...)
	}
}

// TestFoldLengths (P11.2, P11.9): lines of each length, of numbers of each length.
func TestFoldLengths(t *testing.T) {
	for _, one := range []string{"x", " ", "\r", "\n", "\x00", "é", "\u20ac", "\U0001f600", "\xff", "\x80", "\xc3", "\xe2\x82", "\xf0\x9f\x98", "\xf0\x90\x80", "\xed\xa0\x80", "xé", "é\u20ac\U0001f600", "\u0080", "\u07ff", "\u0800", "\ud7ff", "\ue000", "\uffff", "\U00010000", "\U0010ffff", "\xf4\x90\x80\x80"} {
		for long := range 1100 {
			s := times(one, long/len(one)+1)
			if long%len(one) == 0 || long%7 == 0 {
				checkFold(t, s[:long])
				checkFold(t, s[len(s)-long:])
			}
		}
	}
	for _, long := range []int{0, 74, 75, 76, 149, 150, 1024} {
		checkFold(t, times("x", long), times("é", long), times("x", long))
	}
}

// TestFoldCuts (P11.2): each of what has bytes of several kinds, at each place around the first cuts, ahead of much and of nothing.
func TestFoldCuts(t *testing.T) {
	odd := []string{"é", "\u20ac", "\U0001f600", "\xc3", "\xe2\x82", "\xf0\x9f\x98", "\xf0\x9f", "\x80", "\x80\x80\x80\x80", "\xc0\x80", "\xe0\x80\x80", "\xed\xa0\x80", "\xf0\x80\x80\x80", "\xf4\x90\x80\x80", "\xf5\x80\x80\x80", "\xff\xff", "\xc3é", "\xe2\u20ac", "\xf0\U0001f600", "é\xa9", "\u20ac\x82", "\xe2é", "\xf0\x9fé", "éé", "\u20acé"}
	for _, one := range odd {
		for at := 60; at < 240; at++ {
			for _, behind := range []string{"", "y", "é", "\xa9", "\x80\x80", times("y", 80), one, times(one, 80)} {
				checkFold(t, times("x", at)+one+behind)
			}
		}
	}
}

// TestFoldDrawn (P11.2, P11.9): drawn lines.
func TestFoldDrawn(t *testing.T) {
	draw := rand.New(rand.NewPCG(11, 2))
	for range 5000 {
		var l []string
		for range draw.IntN(6) {
			s := ""
			for n := draw.IntN(400); len(s) < n; {
				switch draw.IntN(8) {
				case 0:
					s += string([]byte{byte(draw.Uint32())})
				case 1:
					s += string(rune(draw.IntN(0x110000)))
				case 2:
					s += string(rune(draw.IntN(0x1000)))
				case 3:
					s += []string{"\xc3", "\xe2\x82", "\xf0\x9f\x98", "\x80", "\r", "\n", " "}[draw.IntN(7)]
				default:
					s += times("x", draw.IntN(12))
				}
			}
			l = append(l, s)
		}
		checkFold(t, l...)
	}
}

// TestUnfoldOfFold (P11.8): Unfold of Fold is the lines, at all lengths that may be, at the limits, and drawn.
func TestUnfoldOfFold(t *testing.T) {
	back := func(l ...string) {
		t.Helper()
		s := line.Fold(l)
		if got, e := line.Unfold(s); e != api.OK || !slices.Equal(got, l) {
			t.Errorf("Unfold(Fold(%.200q)), of %d bytes, = %.200q, %d", l, len(s), got, e)
		}
	}
	back()
	for long := 1; long <= 1024; long++ {
		for _, one := range []string{"x", "é", "\u20ac", "\U0001f600", "x ", "x\t", "a\rb", "\xff", "a  \xe2\x82"} {
			s := strings.TrimRight(times(one, long/len(one)+1)[:long], "\r")
			back(s)
			back("A:b", s, "C:d")
		}
	}
	back(slices.Repeat([]string{"A:b"}, 400)...)
	back(slices.Repeat([]string{times("x", 75)}, 106)...)
	back(append(slices.Repeat([]string{times("x", 1024)}, 7), times("x", 700))...)
	draw := rand.New(rand.NewPCG(11, 3))
	for range 20000 {
		var l []string
		for range draw.IntN(8) {
			s := fmt.Sprint("N", draw.IntN(100))
			for n := draw.IntN(900); len(s) < n; {
				s += []string{"x", " ", "\t", "  ", "\r", "é", "\u20ac", "\U0001f600", "\xff", "\xe2\x82", ":", ";", times("y", 70), times("z", 74), "\x00"}[draw.IntN(15)]
			}
			l = append(l, strings.TrimRight(s[:min(len(s), 1024)], "\r"))
		}
		if len(line.Fold(l)) <= 8192 {
			back(l...)
		}
	}
}

// FuzzFold: any text is unfolded, and any lines are folded.
func FuzzFold(f *testing.F) {
	for _, s := range []string{"", "A:b\r\n c\nD:e", " a", "a\n\n", "a\r", times("a\n", 401), times("x", 1025), times("é", 200)} {
		f.Add(s)
	}
	f.Fuzz(func(t *testing.T, s string) {
		unfoldLikeModel(t, s)
		checkFold(t, s)
		checkFold(t, strings.Split(s, "\n")...)
		l, e := line.Unfold(s)
		for _, whole := range l {
			if e != api.OK || whole == "" || len(whole) > 1024 {
				t.Errorf("Unfold(%q) tells %q, %d", s, whole, e)
			}
		}
	})
}
