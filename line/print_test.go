package line_test

import (
	"fmt"
	"math/rand/v2"
	"slices"
	"strings"
	"testing"

	"almanac/api"
	"almanac/line"
)

// clone is a property that shares no memory.
func clone(p api.Prop) api.Prop {
	p.Params = slices.Clone(p.Params)
	for i := range p.Params {
		p.Params[i].Values = slices.Clone(p.Params[i].Values)
	}
	return p
}

// checkPrint holds Fit and Print of a property against what they are to tell, and reads what is written; "" is what is not fit.
func checkPrint(t *testing.T, p api.Prop, want string) {
	t.Helper()
	given := clone(p)
	if got := line.Fit(p); got != (want != "") {
		t.Errorf("Fit(%.300q) = %v", fmt.Sprint(p), got)
	}
	got := line.Print(p)
	if got != want {
		t.Errorf("Print(%.300q) = %.300q, want %.300q", fmt.Sprint(p), got, want)
	}
	if !alike(p, given) {
		t.Errorf("Print changed %.300q into %.300q", fmt.Sprint(given), fmt.Sprint(p))
	}
	if want != "" {
		check(t, got, given, api.OK)
		if l, e := line.Unfold(line.Fold([]string{got})); e != api.OK || !slices.Equal(l, []string{got}) {
			t.Errorf("Unfold(Fold(%.300q)) = %.300q, %d", got, l, e)
		}
	}
}

// printLikeModel holds it against the models.
func printLikeModel(t *testing.T, p api.Prop) {
	t.Helper()
	if modelFit(p) {
		checkPrint(t, p, modelPrint(p))
	} else {
		checkPrint(t, p, "")
	}
}

// unfit asks that a property be none.
func unfit(t *testing.T, p api.Prop) {
	t.Helper()
	checkPrint(t, p, "")
	if modelFit(p) {
		t.Errorf("the model has %.300q as fit", fmt.Sprint(p))
	}
}

// TestPrintKnown (P11.4, P11.5): what is written.
func TestPrintKnown(t *testing.T) {
	for want, p := range map[string]api.Prop{
		"A:":                  prop("A", ""),
		"A:b":                 prop("A", "b"),
		"-9:":                 prop("-9", ""),
		`A:"b";c,d:e `:        prop("A", `"b";c,d:e `),
		"A:\té":               prop("A", "\té"),
		"A: ":                 prop("A", " "),
		"A;B=c:d":             prop("A", "d", param("B", "c")),
		"A;B=:":               prop("A", "", param("B", "")),
		"A;B=,:":              prop("A", "", param("B", "", "")),
		"A;B=c,d,e:f":         prop("A", "f", param("B", "c", "d", "e")),
		"A;B=,c,:f":           prop("A", "f", param("B", "", "c", "")),
		`A;B=",":c`:           prop("A", "c", param("B", ",")),
		`A;B=";":c`:           prop("A", "c", param("B", ";")),
		`A;B=":":c`:           prop("A", "c", param("B", ":")),
		`A;B="a,":c`:          prop("A", "c", param("B", "a,")),
		`A;B=";a":c`:          prop("A", "c", param("B", ";a")),
		`A;B="a:b":c`:         prop("A", "c", param("B", "a:b")),
		`A;B=a,":",b:c`:       prop("A", "c", param("B", "a", ":", "b")),
		`A;B=",",;C=;D=d:`:    prop("A", "", param("B", ",", ""), param("C", ""), param("D", "d")),
		"A;B== a\t'\\.:":      prop("A", "", param("B", "= a\t'\\.")),
		"A;B=a;B=a;A=b:":      prop("A", "", param("B", "a"), param("B", "a"), param("A", "b")),
		"A;B=é,\u20ac:\u0080": prop("A", "\u0080", param("B", "é", "\u20ac")),
	} {
		checkPrint(t, p, want)
		if !modelFit(p) || modelPrint(p) != want {
			t.Errorf("the model of %q is %q", want, modelPrint(p))
		}
	}
	checkPrint(t, api.Prop{Name: "A", Params: []api.Param{}}, "A:")
}

// TestFitFields (P11.4): each field faulty alone.
func TestFitFields(t *testing.T) {
	p := prop("SUMMARY", `"x"; y`, param("CN", "a", "b;c", ""), param("X-9", ","))
	checkPrint(t, p, `SUMMARY;CN=a,"b;c",;X-9=",":"x"; y`)
	faulty := func(spoil func(p *api.Prop)) {
		t.Helper()
		q := clone(p)
		spoil(&q)
		unfit(t, q)
	}
	faulty(func(p *api.Prop) { *p = api.Prop{} })
	for _, name := range []string{"", " ", "a", "Summary", "SUMMARYz", "A B", "A_", "A.B", "A:", "A;", "A=", "A,", "A\"", "É", "A\xff", "A\x00", "A\n", "\x7f", "K\u212a", times("A", 65), times("A", 66), times("A", 1000), times("a", 64)} {
		faulty(func(p *api.Prop) { p.Name = name })
		faulty(func(p *api.Prop) { p.Params[0].Name = name })
		faulty(func(p *api.Prop) { p.Params[1].Name = name })
	}
	for _, text := range []string{"\x00", "\x01", "\b", "\n", "\v", "\r", "\x1f", "\x7f", "\xff", "\x80", "\xc3", "\xc0\x80", "\xed\xa0\x80", "\xf4\x90\x80\x80"} {
		for _, s := range []string{text, "a" + text, text + "a", "a" + text + "é"} {
			faulty(func(p *api.Prop) { p.Value = s })
			faulty(func(p *api.Prop) { p.Params[0].Values[0] = s })
			faulty(func(p *api.Prop) { p.Params[0].Values[2] = s })
			faulty(func(p *api.Prop) { p.Params[1].Values[0] = s })
		}
	}
	for _, s := range []string{`"`, `"a"`, `a"`, `"a`, `a"b`, `;"`, `","`, `""`} {
		faulty(func(p *api.Prop) { p.Params[0].Values[0] = s })
		faulty(func(p *api.Prop) { p.Params[0].Values[2] = s })
		faulty(func(p *api.Prop) { p.Params[1].Values[0] = s })
		checkPrint(t, prop("A", s), "A:"+s)
	}
	faulty(func(p *api.Prop) { p.Params[0].Values = nil })
	faulty(func(p *api.Prop) { p.Params[0].Values = []string{} })
	faulty(func(p *api.Prop) { p.Params[1].Values = nil })
	faulty(func(p *api.Prop) { p.Params[1] = api.Param{} })
	faulty(func(p *api.Prop) { p.Params = slices.Repeat(p.Params, 9)[:17] })
	faulty(func(p *api.Prop) { p.Params = append(p.Params, api.Param{Name: "Z"}) })
	faulty(func(p *api.Prop) { p.Value = times("x", 1024) })
	faulty(func(p *api.Prop) { p.Params[1].Values[0] = times("x", 1024) })
}

// TestFitBytes (P11.4): each byte in each field.
func TestFitBytes(t *testing.T) {
	for b := range 256 {
		s := string([]byte{byte(b)})
		isGreat := b >= 'A' && b <= 'Z' || b >= '0' && b <= '9' || b == '-'
		isText := (b >= 32 || b == 9) && b < 127
		for _, c := range []struct {
			p  api.Prop
			ok bool
		}{
			{prop(s, ""), isGreat},
			{prop("A"+s, ""), isGreat},
			{prop("A", "", param(s, "")), isGreat},
			{prop("A", "", param(s+"B", "")), isGreat},
			{prop("A", s), isText},
			{prop("A", "é"+s), isText},
			{prop("A", "", param("B", s)), isText && b != '"'},
			{prop("A", "", param("B", "", s+":")), isText && b != '"'},
		} {
			if got := line.Fit(c.p); got != c.ok {
				t.Errorf("Fit(%q) = %v", fmt.Sprint(c.p), got)
			}
			printLikeModel(t, c.p)
		}
	}
	for n := rune(0); n <= 0x10ffff; n += 1 + n/64 {
		printLikeModel(t, prop("A", string(n), param("B", string(n))))
	}
}

// TestFitLimits (P11.4): 64 bytes of a name, 16 parameters, 1024 bytes in all, and one more.
func TestFitLimits(t *testing.T) {
	name := times("N", 64)
	checkPrint(t, prop(name, "x", param(name, "y")), name+";"+name+"=y:x")
	unfit(t, prop(name+"N", "x", param(name, "y")))
	unfit(t, prop(name, "x", param(name+"N", "y")))
	for n := range 20 {
		p := prop("A", "x", slices.Repeat([]api.Param{param("B", "c", "")}, n)...)
		if n <= 16 {
			checkPrint(t, p, "A"+times(";B=c,", n)+":x")
		} else {
			unfit(t, p)
		}
	}
	for _, grown := range []func(s string) api.Prop{ // to the limit by each of what counts
		func(s string) api.Prop { return prop("A", s) },
		func(s string) api.Prop { return prop("A", "é"+s) },
		func(s string) api.Prop { return prop("A", "", param("B", s)) },
		func(s string) api.Prop { return prop("A", "b", param("B", s), param("C", "", "d")) },
		func(s string) api.Prop { return prop("A", "b", param("B", ":", s, ";"), param("C", ",")) },
		func(s string) api.Prop { return prop("A", "b", param("B", ":"+s)) },
		func(s string) api.Prop { return prop(times("A", 64), s, param(times("B", 64), "")) },
		func(s string) api.Prop { return prop("A", "", param("B", strings.Split(s, "x")...)) },
		func(s string) api.Prop {
			return prop("A", "x", param("B", s, ",", ""), param("C", ":,", ";"), param("D", "", ""))
		},
		func(s string) api.Prop {
			p := prop("A", "")
			for range 16 {
				p.Params = append(p.Params, param("B", s[:len(s)/17], ":"))
			}
			p.Value = s[len(s)/17*16:]
			return p
		},
	} {
		seen := map[int]bool{}
		for n := range 1040 {
			p := grown(times("x", n))
			long := len(modelPrint(p))
			seen[long] = true
			if got := line.Fit(p); got != (long <= 1024) {
				t.Errorf("Fit(%.100q), of %d bytes, = %v", fmt.Sprint(p), long, got)
			}
			printLikeModel(t, p)
		}
		if !seen[1024] || !seen[1025] {
			t.Errorf("%.100q is never at the limit", fmt.Sprint(grown("x")))
		}
	}
	for _, long := range []int{1 << 16, 1 << 20} {
		unfit(t, prop("A", times("x", long)))
		unfit(t, prop("A", times("\"", long)))
		unfit(t, prop("A", "", param("B", times("x", long))))
		unfit(t, prop("A", "", param("B", make([]string, long)...)))
		unfit(t, prop(times("A", long), ""))
		unfit(t, prop("A", "", param(times("A", long), "")))
	}
	unfit(t, prop("A", "", slices.Repeat([]api.Param{param("B", "")}, 1<<16)...))
}

// TestParam (P11.6).
func TestParam(t *testing.T) {
	many := prop("A", "v", param("B", "c", "d"), param("B", "e"), param("C"), param("C", "f"), param("D", ""), param("", "g"), param("b", "h"), param("É", "\xff"))
	given := clone(many)
	for _, c := range []struct {
		p          api.Prop
		name, want string
		ok         bool
	}{
		{many, "B", "c", true},
		{many, "b", "h", true},
		{many, "C", "", false}, // the first one has none
		{many, "c", "", false},
		{many, "D", "", true},
		{many, "d", "", false},
		{many, "", "g", true},
		{many, "É", "\xff", true},
		{many, "é", "", false},
		{many, "A", "", false},
		{many, "BB", "", false},
		{many, "B ", "", false},
		{many, "X", "", false},
		{prop("A", "v"), "", "", false},
		{prop("A", "v"), "A", "", false},
		{api.Prop{}, "A", "", false},
		{prop("A", "v", param("A", "x")), "A", "x", true},
		{prop("A", "v", api.Param{Name: "B", Values: []string{}}, param("B", "x")), "B", "", false},
		{prop("A", "v", param("C", "x"), param("B", "y", "z")), "B", "y", true},
		{prop("A", "v", param("BC", "x"), param("AB", "y")), "B", "", false},
	} {
		if got, ok := line.Param(c.p, c.name); got != c.want || ok != c.ok {
			t.Errorf("Param(%q, %q) = %q, %v, want %q, %v", fmt.Sprint(c.p), c.name, got, ok, c.want, c.ok)
		}
	}
	if !alike(many, given) {
		t.Errorf("Param changed %q into %q", fmt.Sprint(given), fmt.Sprint(many))
	}
	p, _ := line.Parse(`A;tzid="a:b",c;Tzid=d:v`)
	if got, ok := line.Param(p, "TZID"); got != "a:b" || !ok {
		t.Errorf("Param of %q = %q, %v", fmt.Sprint(p), got, ok)
	}
	if _, ok := line.Param(p, "tzid"); ok {
		t.Error("Param finds a name in small letters")
	}
}

// TestSame (P11.7): properties that differ in each field alone, of any kind, fit or not.
func TestSame(t *testing.T) {
	l := []api.Prop{
		{},
		prop("A", ""),
		prop("B", ""),
		prop("a", ""),
		prop("", "A"),
		prop("A", "v"),
		prop("A", "V"),
		prop("A", "v "),
		prop("A", "v", param("B", "c")),
		prop("A", "w", param("B", "c")),
		prop("B", "v", param("B", "c")),
		prop("A", "v", param("b", "c")),
		prop("A", "v", param("C", "c")),
		prop("A", "v", param("B", "C")),
		prop("A", "v", param("B", "d")),
		prop("A", "v", param("B", "")),
		prop("A", "v", param("B")),
		prop("A", "v", param("", "c")),
		prop("A", "v", param("")),
		prop("A", "v", param("B", "c", "")),
		prop("A", "v", param("B", "c", "d")),
		prop("A", "v", param("B", "d", "c")),
		prop("A", "v", param("B", "c,d")),
		prop("A", "v", param("B", "c"), param("B", "d")),
		prop("A", "v", param("B", "d"), param("B", "c")),
		prop("A", "v", param("B", "c"), param("B", "c")),
		prop("A", "v", param("B", "c"), param("C", "d")),
		prop("A", "v", param("C", "d"), param("B", "c")),
		prop("A", "v", param("B", "c"), param("C")),
		prop("A", "v", param("B"), param("C", "c")),
		prop("A", "\xff"),
		prop("A", "\ufffd"),
		prop("A;B=c", "v"),
		prop("A", "", slices.Repeat([]api.Param{param("B", "c")}, 16)...),
		prop("A", "", slices.Repeat([]api.Param{param("B", "c")}, 17)...),
		prop("A", times("x", 2000)),
		prop("A", times("x", 1999)+"y"),
	}
	for i, a := range l {
		for k, b := range l {
			b = clone(b)
			if got := line.Same(a, b); got != (i == k) {
				t.Errorf("Same(%.200q, %.200q) = %v", fmt.Sprint(a), fmt.Sprint(b), got)
			}
		}
	}
	empty := api.Prop{Name: "A", Params: []api.Param{}}
	if !line.Same(empty, prop("A", "")) || !line.Same(prop("A", "", param("B")), prop("A", "", api.Param{Name: "B", Values: []string{}})) {
		t.Error("a list that is empty, and none, are not the same")
	}
}

// drawer draws properties.
type drawer struct{ *rand.Rand }

func newDrawer(seed uint64) drawer { return drawer{rand.New(rand.NewPCG(11, seed))} }

// rarely is true once in so many times.
func (d drawer) rarely(n int) bool { return d.IntN(n) == 0 }

func oneOf[T any](d drawer, l ...T) T { return l[d.IntN(len(l))] }

// name is a name in great letters.
func (d drawer) name() string {
	const bytes = "ABCDEFGHIJKLMNOPQRSTUVWXYZ0123456789-"
	s := ""
	for range 1 + d.IntN(oneOf(d, 1, 8, 8, 64)) {
		s += bytes[d.IntN(len(bytes)):][:1]
	}
	return s
}

// words is a value, of so many pieces at most.
func (d drawer) words(most int, pieces ...string) string {
	s := ""
	for range d.IntN(most + 1) {
		s += oneOf(d, pieces...)
	}
	return s
}

// prop is a property that is fit, but perhaps too long.
func (d drawer) prop() api.Prop {
	p := api.Prop{Name: d.name(), Value: d.words(oneOf(d, 0, 5, 40, 200, 400), "x", "yz", " ", "\t", `"`, ",", ";", ":", "=", `\n`, "é", "\u20ac", "\U0010ffff", "\u0080", "mailto:")}
	for range d.IntN(oneOf(d, 1, 3, 17)) {
		one := api.Param{Name: d.name()}
		for range 1 + d.IntN(oneOf(d, 1, 1, 4)) {
			one.Values = append(one.Values, d.words(oneOf(d, 1, 6, 30), "x", "yz", " ", "\t", "'", ",", ";", ":", "=", `\`, "é", "\U0001f600"))
		}
		p.Params = append(p.Params, one)
	}
	return p
}

// spelt is a text that Parse is to read as a property: names in any letters, more values between ".
func (d drawer) spelt(p api.Prop) string {
	s := d.letters(p.Name)
	for _, one := range p.Params {
		s += ";" + d.letters(one.Name)
		for i, v := range one.Values {
			s += []string{"=", ","}[min(i, 1)]
			if strings.ContainsAny(v, ",;:") || d.rarely(3) {
				v = `"` + v + `"`
			}
			s += v
		}
	}
	return s + ":" + p.Value
}

// letters is a name with some of its letters small.
func (d drawer) letters(s string) string {
	b := []byte(s)
	for i := range b {
		if d.rarely(2) {
			b[i] = strings.ToLower(s)[i]
		}
	}
	return string(b)
}

// spoilt is a property with one thing, or more, changed, so that it may be none any more.
func (d drawer) spoilt(p api.Prop) api.Prop {
	p = clone(p)
	bad := func() string {
		return oneOf(d, "", "a", "A", "\x00", "\n", "\xff", `"`, "é", "\x7f", " ", ":", times("Z", 64), times("Z", 65), times("x", 1000))
	}
	for range 1 + d.IntN(2) {
		n := len(p.Params)
		switch {
		case n == 0 || d.rarely(4):
			p.Params = append(p.Params, param("N", d.words(1, "a")))
		case d.rarely(5):
			p.Name += bad()
		case d.rarely(4):
			p.Value += bad()
		case d.rarely(3):
			p.Params[d.IntN(n)].Name = bad()
		case d.rarely(3):
			p.Params[d.IntN(n)].Values = nil
		default:
			one := &p.Params[d.IntN(n)]
			one.Values = append(one.Values, bad())
		}
	}
	return p
}

// TestThereAndBack (P11.8): drawn properties are read as they are however they are spelt, written, and read as the same.
func TestThereAndBack(t *testing.T) {
	d := newDrawer(4)
	fit := 0
	for range 20000 {
		p := d.prop()
		printLikeModel(t, p)
		if line.Fit(p) {
			fit++
		}
		if s := d.spelt(p); len(s) <= 1024 {
			check(t, s, p, api.OK)
		} else {
			check(t, s, api.Prop{}, api.ErrLong)
		}
		q := d.spoilt(p)
		printLikeModel(t, q)
		if line.Same(p, q) != alike(p, q) || !line.Same(p, clone(p)) {
			t.Errorf("Same of %q and %q is wrong", fmt.Sprint(p), fmt.Sprint(q))
		}
	}
	if fit < 12000 {
		t.Errorf("but %d were fit", fit)
	}
}

// TestParseDrawn (P11.3, P11.8): drawn properties of which some bytes are others; what is read is fit, and is written so that it is read as the same.
func TestParseDrawn(t *testing.T) {
	d := newDrawer(5)
	for range 20000 {
		b := []byte(d.spelt(d.prop()))
		b = b[:min(len(b), oneOf(d, 100, 300, 1025))]
		for range d.IntN(4) {
			at := d.IntN(len(b) + 1)
			b = slices.Replace(b, at, min(len(b), at+d.IntN(2)), []byte(oneOf(d, ";", ":", "=", ",", `"`, "a", "", "\x00", "\t", "é", "\xff", ";b=c"))...)
		}
		s := string(b)
		likeModel(t, s)
		if p, e := line.Parse(s); e == api.OK {
			if len(modelPrint(p)) > len(s) {
				t.Errorf("Print(%.300q) is longer than %.300q", fmt.Sprint(p), s)
			}
			printLikeModel(t, p)
		}
	}
}

// TestFolded (P11.8): many drawn properties as one text, folded by Fold or anyhow, are unfolded and read as they are.
func TestFolded(t *testing.T) {
	d := newDrawer(6)
	for range 2000 {
		var l []string
		var want []api.Prop
		for range d.IntN(30) {
			if p := d.prop(); line.Fit(p) {
				l, want = append(l, line.Print(p)), append(want, p)
			}
		}
		for len(line.Fold(l)) > 7000 {
			l = l[:len(l)-1]
		}
		var anyhow strings.Builder
		for _, s := range l {
			for i := range len(s) {
				if d.rarely(40) && i > 0 {
					anyhow.WriteString(oneOf(d, "\n ", "\r\n\t"))
				}
				anyhow.WriteByte(s[i])
			}
			anyhow.WriteString(oneOf(d, "\n", "\r\n", "\r\n \r\n"))
		}
		for _, text := range []string{line.Fold(l), anyhow.String()} {
			got, e := line.Unfold(text)
			if e != api.OK || len(got) != len(l) {
				t.Errorf("Unfold(%.300q) = %.300q, %d", text, fmt.Sprint(got), e)
				continue
			}
			for i, s := range got {
				check(t, s, want[i], api.OK)
			}
		}
	}
}

// FuzzParse: any line; what is read is fit, written, and read as the same; what is not is like the model.
func FuzzParse(f *testing.F) {
	for _, s := range append(right(), "", "A;B=\"", times("a", 65), "A"+times(";B=c", 17)+":") {
		f.Add(s)
	}
	f.Fuzz(func(t *testing.T, s string) {
		likeModel(t, s)
		p, e := line.Parse(s)
		if e == api.OK && !line.Fit(p) {
			t.Errorf("Parse(%q) is not fit", s)
		}
		printLikeModel(t, p)
		printLikeModel(t, prop("A", s, param("B", s, s)))
		printLikeModel(t, prop(s, "", param(s, "")))
	})
}
