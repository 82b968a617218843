package comp_test

import (
	"fmt"
	"slices"
	"strings"
	"testing"

	"almanac/api"
	"almanac/comp"
	"almanac/line"
)

// TestPrintKnown (P12.3): what is written.
func TestPrintKnown(t *testing.T) {
	for _, c := range []struct {
		c    api.Comp
		want []string
	}{
		{of("A"), []string{"BEGIN:A", "END:A"}},
		{of("-9"), []string{"BEGIN:-9", "END:-9"}},
		{of("BEGIN"), []string{"BEGIN:BEGIN", "END:BEGIN"}},
		{of("END", of("BEGIN")), []string{"BEGIN:END", "BEGIN:BEGIN", "END:BEGIN", "END:END"}},
		{of("A", prop("X", "")), []string{"BEGIN:A", "X:", "END:A"}},
		{of("A", prop("X", "1"), prop("X", "1"), prop("W", "2")), []string{"BEGIN:A", "X:1", "X:1", "W:2", "END:A"}},
		{of("A", prop("X", " BEGIN:A", param("BEGIN", "b:c", ""), param("END", "\u00e9"))), []string{"BEGIN:A", `X;BEGIN="b:c",;END=` + "\u00e9: BEGIN:A", "END:A"}},
		{of("A", of("B"), prop("X", "1"), of("B", prop("Y", "2")), prop("W", "3")), []string{"BEGIN:A", "X:1", "W:3", "BEGIN:B", "END:B", "BEGIN:B", "Y:2", "END:B", "END:A"}},
		{of("A", of("C", of("E"), of("D")), of("B")), []string{"BEGIN:A", "BEGIN:C", "BEGIN:E", "END:E", "BEGIN:D", "END:D", "END:C", "BEGIN:B", "END:B", "END:A"}},
		{of("A", of("A", of("A"), prop("X", "2")), prop("X", "1")), []string{"BEGIN:A", "X:1", "BEGIN:A", "X:2", "BEGIN:A", "END:A", "END:A", "END:A"}},
		{of("A", prop("BEGINX", ""), prop("EN", ""), prop("BEGIN-", ""), prop("XEND", "")), []string{"BEGIN:A", "BEGINX:", "EN:", "BEGIN-:", "XEND:", "END:A"}},
	} {
		checkPrint(t, c.c, strings.Join(c.want, "\r\n")+"\r\n")
		fit(t, c.c)
	}
	fit(t, api.Comp{Name: "A", Props: []api.Prop{}, Comps: []api.Comp{}})
	fit(t, api.Comp{Name: "A", Props: []api.Prop{{Name: "X", Params: []api.Param{}}}})
}

// TestPrintFolded (P12.3, P12.7): lines of each length are written folded, and read as they were.
func TestPrintFolded(t *testing.T) {
	x := times("x", 75)
	checkPrint(t, of("A", prop("X", x)), "BEGIN:A\r\nX:"+x[:73]+"\r\n xx\r\nEND:A\r\n")
	checkPrint(t, of("A", of("B", prop("X", x[:73]))), "BEGIN:A\r\nBEGIN:B\r\nX:"+x[:73]+"\r\nEND:B\r\nEND:A\r\n")
	checkPrint(t, of("A", prop("X", x[:72]+"\u00e9y", param("Y", ""))), "BEGIN:A\r\nX;Y=:"+x[:70]+"\r\n xx\u00e9y\r\nEND:A\r\n")
	for long := range 1022 {
		for _, one := range []string{"x", "\u00e9", "\U0001f600", " "} {
			value := times(one, long/len(one))
			c := of("A", prop("X", value), of(times("B", 64), prop("Y", "1", param("Z", value[:len(value)/2/len(one)*len(one)]))))
			fit(t, c)
			for piece := range strings.SplitSeq(comp.Print(c), "\r\n") {
				if len(piece) > 75 {
					t.Errorf("Print(%.100q) has a line of %d bytes", fmt.Sprint(c), len(piece))
				}
			}
		}
	}
}

// placed is a component at places that it may have in others, and how they are called; deep ones only of what has nothing in it.
func placed(c api.Comp) map[string]api.Comp {
	l := map[string]api.Comp{
		"the whole":             c,
		"the only one":          of("P", c),
		"the first one":         of("P", c, of("Q"), prop("X", "1")),
		"the middle one":        of("P", prop("X", "1"), of("Q"), c, of("Q")),
		"the last one":          of("P", of("Q", of("R")), c),
		"one within one":        of("P", of("Q", of("R"), c), of("S", prop("X", "1"))),
		"the last of 400 lines": of("P", append(slices.Repeat([]any{of("Q")}, 198), c)...),
	}
	if len(c.Comps) == 0 {
		l["the twelfth one"] = within(c, 11)
	}
	return l
}

// TestFitNames (P12.2): names of components, at each place.
func TestFitNames(t *testing.T) {
	for _, name := range []string{"", " ", "a", "Vevent", "VEVENTs", "A B", "A ", " A", "A_", "A.B", "A:", "A:B", ":", "A;", "A=", "A,", `A"`, "\u00c9", "A\xff", "\xff", "A\x00", "\x00", "A\n", "A\r\n", "\n", "\x7f", "K\u212a", "\u0130", times("A", 65), times("A", 66), times("A", 1000), times("A", 10000), times("a", 64), times("A", 63) + "a"} {
		for where, c := range placed(of(name)) {
			if comp.Fit(c) {
				t.Errorf("Fit with the name %.20q as %s", name, where)
			}
			unfit(t, c)
		}
		unfit(t, of(name, prop("X", "1"), of("B")))
	}
	for _, name := range []string{"A", "Z", "0", "-", "-9", "VCALENDAR", "BEGIN", "END", times("A", 64), times("-", 64)} {
		for _, c := range placed(of(name)) {
			fit(t, c)
		}
		fit(t, of(name, prop("X", "1"), of("B")))
	}
	for b := range 256 {
		one := string([]byte{byte(b)})
		for _, name := range []string{one, one + "A", "A" + one, "A" + one + "B", times("A", 63) + one} {
			printLikeModel(t, of(name))
			printLikeModel(t, of("A", prop("X", "1"), of(name)))
			if got := comp.Fit(of(name)); got != (b >= 'A' && b <= 'Z' || b >= '0' && b <= '9' || b == '-') {
				t.Errorf("Fit with the name %q = %v", name, got)
			}
		}
	}
	for long := range 140 {
		printLikeModel(t, of(times("N", long)))
		printLikeModel(t, of("A", of(times("N", long)), of("B")))
	}
}

// TestFitProps (P12.2): a property that is not fit, or is named BEGIN or END, at each place.
func TestFitProps(t *testing.T) {
	faulty := []api.Prop{
		{}, prop("", "1"), prop("x", "1"), prop("X Y", "1"), prop("X:", "1"), prop(times("X", 65), "1"), prop("X\n", "1"),
		prop("X", "\n"), prop("X", "1\r"), prop("X", "\x00"), prop("X", "\x7f"), prop("X", "\xff"), prop("X", times("x", 1023)), prop("X", times("x", 9000)), prop("X", "1\r\nEND:A\r\nBEGIN:A"),
		prop("X", "1", param("y", "2")), prop("X", "1", param("", "2")), prop("X", "1", param("Y")), prop("X", "1", param("Y", `"`)), prop("X", "1", param("Y", "2", "\n")), prop("X", "1", slices.Repeat([]api.Param{param("Y", "2")}, 17)...),
		prop("BEGIN", "A"), prop("END", "A"), prop("BEGIN", ""), prop("END", ""), prop("BEGIN", "A", param("X", "1")), prop("END", "x", param("X", "1")), prop("END", "B"),
	}
	right := []any{prop("X", "1"), prop("BEGINS", "A"), prop("ENDS", "A"), prop("X", times("x", 1022))}
	for _, p := range faulty {
		for at := range len(right) + 1 {
			parts := slices.Insert(slices.Clone(right), at, any(p))
			for _, c := range placed(of("A", parts...)) {
				unfit(t, c)
			}
			unfit(t, of("A", append(parts, of("B"))...))
		}
		for _, c := range placed(of("A", p)) {
			unfit(t, c)
		}
	}
	fit(t, of("A", right...))
	fit(t, of("A", prop("X", "begin"), prop("BEGI", "BEGIN"), prop("END-", ""), prop("XBEGIN", "END:A"), prop("X", "1", param("BEGIN", "A"), param("END", "A"))))
	for b := range 256 {
		one := string([]byte{byte(b)})
		for _, p := range []api.Prop{prop(one, "1"), prop("X"+one, "1"), prop("BEGIN"+one, "A"), prop("END"+one, "A"), prop(one+"END", "A"), prop("X", one), prop("X", "1", param(one, "1")), prop("X", "1", param("Y", one))} {
			printLikeModel(t, of("A", p))
			printLikeModel(t, of("A", of("B"), of("C", prop("Z", ""), p)))
		}
	}
}

// TestFitDeep (P12.2): 12 components in one another, and 13, wherever the deep ones stand.
func TestFitDeep(t *testing.T) {
	for n := range 30 {
		deep := within(of("I", prop("X", "1")), n)
		for _, c := range []api.Comp{deep, of("P", deep), of("P", of("Q"), deep, of("Q")), of("P", within(of("Q"), 10), deep), of("P", of("Q", of("R")), of("Q", of("R"), deep))} {
			printLikeModel(t, c)
			if got, want := comp.Fit(c), depth(c) <= 12; got != want {
				t.Errorf("Fit of %d in one another = %v", depth(c), got)
			}
		}
	}
	fit(t, within(of("I"), 11))
	unfit(t, within(of("I"), 12))
	fit(t, of("P", slices.Repeat([]any{within(of("I"), 10)}, 16)...))
	unfit(t, of("P", append(slices.Repeat([]any{within(of("I"), 10)}, 15), within(of("I"), 11))...))
}

// TestFitLines (P12.2): 400 lines, and 401, of all kinds; folded, there may be more.
func TestFitLines(t *testing.T) {
	for n := range 410 {
		for _, c := range []api.Comp{
			of("A", slices.Repeat([]any{prop("X", "1")}, n)...),
			of("A", append(slices.Repeat([]any{of("B")}, n/2), slices.Repeat([]any{prop("X", "")}, n%2)...)...),
			of("A", of("B", slices.Repeat([]any{prop("X", "")}, n)...)),
			of("A", of("B"), of("C", slices.Repeat([]any{prop("X", "")}, n/2)...), of("D", slices.Repeat([]any{prop("Y", "")}, n-n/2)...)),
			within(of("I", slices.Repeat([]any{prop("X", "")}, n)...), 11),
		} {
			lines := len(modelLines(c))
			if got := comp.Fit(c); got != (lines <= 400) {
				t.Errorf("Fit of %d lines = %v", lines, got)
			}
			printLikeModel(t, c)
		}
	}
	short := slices.Repeat([]any{prop("X", "")}, 385)
	c := of("A", append(short, slices.Repeat([]any{prop("Y", times("y", 1022))}, 5)...)...)
	if n := strings.Count(modelPrint(c), "\r\n"); n < 450 {
		t.Errorf("but %d lines when folded", n)
	}
	fit(t, c)
	fit(t, of("A", slices.Repeat([]any{prop("X", "")}, 398)...))
	unfit(t, of("A", slices.Repeat([]any{prop("X", "")}, 399)...))
	unfit(t, of("A", slices.Repeat([]any{prop("X", "")}, 1<<16)...))
	unfit(t, of("A", slices.Repeat([]any{of("B")}, 1<<16)...))
}

// TestFitBytes (P12.2): 8192 bytes as folded, and one more.
func TestFitBytes(t *testing.T) {
	long := slices.Repeat([]any{prop("Y", times("y", 1022))}, 6) // 1065 bytes each
	for i, grown := range []func(s string) api.Comp{
		func(s string) api.Comp {
			return of("A", append(slices.Clone(long), prop("X", "1"), prop("X", s), prop("Z", times("z", 900)))...)
		},
		func(s string) api.Comp {
			return of("A", append(slices.Clone(long), prop("X", times("x", 900)), of("B", prop("X", s)))...)
		},
		func(s string) api.Comp {
			return within(of("B", append(slices.Clone(long), prop("X", times("x", 1000), param("Z", "")), prop("X", s))...), 9)
		},
		func(s string) api.Comp {
			return of("A", append(slices.Clone(long), prop("X", times("\u00e9", 500)), prop("X", "", param("Z", s[:min(len(s), 1000)]+":")))...)
		},
		func(s string) api.Comp {
			c := of("A", long...)
			for range 30 {
				c.Props = append(c.Props, prop("X", s[:len(s)/20]))
			}
			return of("A", append(slices.Repeat([]any{c}, 1), prop("X", s[len(s)/20:]))...)
		},
		func(s string) api.Comp {
			return of("A", append(slices.Clone(long), prop("X", times("x", 1000)), of("B"+times("N", len(s)%40), prop("X", s[:len(s)-len(s)%40+len(s)%2])))...)
		},
		func(s string) api.Comp {
			return of("A", append(slices.Repeat([]any{prop("X", "234567890123456789")}, 340), prop("X", s), prop("X", "x"))...)
		}, // nothing but s to fold
		func(s string) api.Comp {
			return of("A", append(slices.Clone(long), prop("X", times("x", 1000)), prop("X", times("\U0001f600", len(s)/4)+s[:len(s)%4]))...)
		},
	} {
		seen := map[int]bool{}
		for n := range 1020 {
			c := grown(times("x", n))
			bytes := len(modelPrint(c))
			seen[bytes] = true
			if got := comp.Fit(c); got != (bytes <= 8192) {
				t.Errorf("%d: Fit of %d bytes = %v", i, bytes, got)
			}
			if n%50 == 0 || bytes > 8180 && bytes < 8210 {
				printLikeModel(t, c)
			}
		}
		if !seen[8192] || !seen[8193] {
			t.Errorf("%d is never at the limit: %v, %v", i, seen[8192], seen[8193])
		}
	}

	// what is read may be too long when it is folded
	l := slices.Repeat([]string{"Y:" + times("y", 1000)}, 8)
	s := text(slices.Concat([]string{"BEGIN:A"}, l, []string{"END:A"})...)
	want := of("A", slices.Repeat([]any{prop("Y", times("y", 1000))}, 8)...)
	parses(t, s, want)
	unfit(t, want)
}

// TestFitEnds (0.1): what stands in itself, and what would be endless to go through, is none.
func TestFitEnds(t *testing.T) {
	c := of("A", prop("X", "1"), of("B"), of("C"))
	c.Comps[1].Comps = c.Comps
	if comp.Fit(c) || comp.Print(c) != "" {
		t.Error("what stands in itself is fit")
	}
	c.Comps[0].Comps = c.Comps
	if comp.Fit(c) || comp.Print(c) != "" {
		t.Error("what stands twice in itself is fit")
	}
	wide := of("A")
	for range 11 {
		wide = api.Comp{Name: "A", Comps: slices.Repeat([]api.Comp{wide}, 1000)}
	}
	if comp.Fit(wide) || comp.Print(wide) != "" {
		t.Error("what has a thousand of a thousand is fit")
	}
	deep := within(of("I"), 1<<16)
	if comp.Fit(deep) || comp.Print(deep) != "" {
		t.Error("what is as deep as may be is fit")
	}
	for _, c := range []api.Comp{{}, of("A", of("")), of("A", prop("", ""))} {
		unfit(t, c)
	}
}

// TestNamed (P12.4): properties and components of a name that is there not at all, once, more often; of names of all kinds.
func TestNamed(t *testing.T) {
	c := of("A",
		prop("X", "1", param("P", "q", "r"), param("S", "")), prop("Y", "2"), prop("X", "3"), prop("x", "4"), prop("", "5"), prop("BEGIN", "6"), prop("\u00c9", "\xff"), prop("X", "1", param("P", "q", "r"), param("S", "")), prop("XY", "7"), prop("X ", "8"), prop("C", "9"), prop("D", "", param("T")),
		of("B", prop("Z", "1", param("P", "q")), prop("Y", "2", param("P", "q"), param("S", "t", "u")), of("C", prop("X", "in"), of("E", prop("F", "", param("G", "h")))), of("D", prop("F", ""), prop("F", "", param("G", "h")), of("E"), of("F", prop("G", "", param("H", ""))))), of("C"), of("B"), of("b", prop("X", "in")), of(""), of("X"), of("BC"), of("\u00c9"), of("B", prop("Z", "1", param("P", "q")), of("C")))
	given := copied(c)
	names := []string{"", "A", "B", "b", "C", "BC", "X", "x", "Y", "y", "XY", "X ", " X", "Z", "D", "E", "F", "BEGIN", "begin", "END", "\u00c9", "\u00e9", "\xff", "\ufffd", "\x00", times("X", 65), "in", "1"}
	seen := map[int]int{}
	for _, name := range names {
		var props []api.Prop
		for _, p := range given.Props {
			if p.Name == name {
				props = append(props, p)
			}
		}
		var comps []api.Comp
		for _, in := range given.Comps {
			if in.Name == name {
				comps = append(comps, in)
			}
		}
		seen[len(props)]++
		seen[len(comps)]++
		checkNamed(t, c, name, props, comps)
		for _, none := range []api.Comp{{}, of(name), {Name: name, Props: []api.Prop{}, Comps: []api.Comp{}}, of("A", of("Q", prop(name, "1"), of(name)))} {
			if name != "Q" {
				checkNamed(t, none, name, nil, nil)
			}
		}
	}
	if seen[0] == 0 || seen[1] < 5 || seen[3] < 2 {
		t.Errorf("so often are there so many: %v", seen)
	}
	checkNamed(t, c, "X", []api.Prop{c.Props[0], c.Props[2], c.Props[7]}, []api.Comp{of("X")})
	checkNamed(t, c, "B", nil, []api.Comp{c.Comps[0], of("B"), c.Comps[8]})
	checkNamed(t, c, "", []api.Prop{prop("", "5")}, []api.Comp{of("")})
	checkNamed(t, c, "x", []api.Prop{prop("x", "4")}, nil)
	checkNamed(t, c, "c", nil, nil)
	checkNamed(t, c, "z", nil, nil)
	if !alike(c, given) {
		t.Errorf("Props, Prop or Comps changed %.300q into %.300q", fmt.Sprint(given), fmt.Sprint(c))
	}
	read, _ := comp.Parse(text("begin:a", "x:1", "X:2", "begin:b", "end:b", "end:a"))
	checkNamed(t, read, "X", []api.Prop{prop("X", "1"), prop("X", "2")}, nil)
	checkNamed(t, read, "B", nil, []api.Comp{of("B")})
	checkNamed(t, read, "x", nil, nil)
	checkNamed(t, read, "b", nil, nil)
}

// checkNamed holds Props, Prop and Comps against what they are to tell, in memory of its own.
func checkNamed(t *testing.T, c api.Comp, name string, props []api.Prop, comps []api.Comp) {
	t.Helper()
	gotProps, gotComps := comp.Props(c, name), comp.Comps(c, name)
	if !slices.EqualFunc(gotProps, props, alikeProp) {
		t.Errorf("Props(%q) = %.300q, want %.300q", name, fmt.Sprint(gotProps), fmt.Sprint(props))
	}
	if !slices.EqualFunc(gotComps, comps, alike) {
		t.Errorf("Comps(%q) = %.300q, want %.300q", name, fmt.Sprint(gotComps), fmt.Sprint(comps))
	}
	p, ok := comp.Prop(c, name)
	var want api.Prop
	if len(props) > 0 {
		want = props[0]
	}
	if ok != (len(props) > 0) || !alikeProp(p, want) || !ok && p.Params != nil {
		t.Errorf("Prop(%q) = %.300q, %v, want %.300q", name, fmt.Sprint(p), ok, fmt.Sprint(want))
	}
	l := append(memories(c), memories(api.Comp{Props: gotProps, Comps: gotComps})...)
	areApart(t, fmt.Sprintf("Props, Prop and Comps of %q", name), append(l, memoriesOfProp(p)...)...)
}

// TestSame (P12.5): components that differ in each field alone, of any kind, fit or not, at each place.
func TestSame(t *testing.T) {
	x, y := prop("X", "1"), prop("Y", "1")
	l := []api.Comp{
		{},
		of("A"), of("B"), of("a"), of("AB"), of("\xff"), of("\ufffd"), of(times("A", 2000)),
		of("", x), of("A", x), of("B", x), of("A", y), of("A", x, x), of("A", x, y), of("A", y, x), of("A", x, x, x),
		of("A", prop("x", "1")), of("A", prop("X", "2")), of("A", prop("X", "")), of("A", prop("", "1")), of("A", prop("", "")), of("A", prop("X", "1", param("P", "q"))), of("A", prop("X", "1", param("P", "r"))), of("A", prop("X", "1", param("Q", "q"))), of("A", prop("X", "1", param("P", "q", ""))), of("A", prop("X", "1", param("P"))), of("A", prop("X", "1", param("P", "q"), param("P", "q"))),
		of("A", x, prop("Y", "2")), of("A", prop("X", "2"), y), of("A", prop("BEGIN", "B"), prop("END", "B")),
		of("A", of("")), of("A", of("B")), of("A", of("b")), of("A", of("A")), of("A", of("C")), of("A", of("B"), of("B")), of("A", of("B"), of("C")), of("A", of("C"), of("B")), of("A", of("B"), of("B"), of("B")),
		of("A", of("B", x)), of("A", x, of("B")), of("A", y, of("B")), of("A", x, of("C")), of("A", x, x, of("B")), of("A", x, of("B"), of("B")), of("A", x, of("B", x)), of("A", x, of("B", y)), of("A", of("B", x), of("B")), of("A", of("B"), of("B", x)), of("A", of("B", x), of("B", y)), of("A", of("B", y), of("B", x)),
		of("A", of("B", of("C"))), of("A", of("B", of("D"))), of("A", of("B", of("C")), of("C")), of("A", of("B"), of("C", of("C"))), of("A", of("B", of("C", x))), of("A", of("B", of("C"), x)), of("A", of("B", of("C"), of("C"))), of("A", of("B", of("C", of("D")))),
		within(of("I"), 20), within(of("J"), 20), within(of("I", x), 20), within(of("I", y), 20), within(of("I", of("K")), 20), within(of("I"), 21),
		of("A", slices.Repeat([]any{x}, 500)...), of("A", slices.Repeat([]any{x}, 501)...), of("A", slices.Repeat([]any{of("B")}, 500)...), of("A", append(slices.Repeat([]any{of("B")}, 499), of("C"))...),
	}
	for i, a := range l {
		for k, b := range l {
			if got := comp.Same(a, copied(b)); got != (i == k) {
				t.Errorf("Same(%.200q, %.200q) = %v", fmt.Sprint(a), fmt.Sprint(b), got)
			}
			in := placed(copied(b))
			for where, c := range placed(a) {
				if d, ok := in[where]; ok && comp.Same(c, d) != (i == k) {
					t.Errorf("Same of %.200q and %.200q as %s = %v", fmt.Sprint(a), fmt.Sprint(b), where, i != k)
				}
			}
		}
	}
	if !comp.Same(of("A"), api.Comp{Name: "A", Props: []api.Prop{}, Comps: []api.Comp{}}) {
		t.Error("a list that is empty, and none, are not the same")
	}
}

// TestDeep (0.1): what is as deep as may be is gone through, and copied.
func TestDeep(t *testing.T) {
	x := prop("X", "1", param("P", "q"))
	a, b, c := within(of("I", x), 1<<16), within(of("I", x), 1<<16), within(of("I", prop("X", "1", param("P", "r"))), 1<<16)
	if !comp.Same(a, b) || comp.Same(a, c) || comp.Same(c, a) {
		t.Error("Same of deep ones is wrong")
	}
	l := comp.Comps(a, "D1")
	if len(l) != 1 || !comp.Same(l[0], b.Comps[0]) {
		t.Error("Comps of deep ones is wrong")
	}
	areApart(t, "a deep one and its copy", append(memories(a), memories(api.Comp{Comps: l})...)...)
}

// TestThereAndBack (P12.6, P12.7): drawn components are read as they are however they are spelt, written, and read as the same.
func TestThereAndBack(t *testing.T) {
	d := newDrawer(1)
	fits := 0
	for range 4000 {
		c := d.comp()
		printLikeModel(t, c)
		if comp.Fit(c) {
			fits++
		}
		for range 2 {
			if s := d.spelt(c); len(s) > 8192 {
				fails(t, s, api.ErrLong)
			} else if len(modelLines(c)) > 400 {
				fails(t, s, api.ErrMany)
			} else {
				check(t, s, c, api.OK)
			}
		}
		q := d.spoilt(c)
		printLikeModel(t, q)
		if comp.Same(c, q) != alike(c, q) || comp.Same(q, c) != alike(c, q) || !comp.Same(c, copied(c)) {
			t.Errorf("Same of %.300q and %.300q is wrong", fmt.Sprint(c), fmt.Sprint(q))
		}
	}
	if fits < 3000 {
		t.Errorf("but %d were fit", fits)
	}
}

// TestParseDrawn (P12.1, P12.6): drawn components of which some lines are others; what is read is written, if that may be, and read as the same.
func TestParseDrawn(t *testing.T) {
	d := newDrawer(2)
	told := map[api.Errno]int{}
	for range 15000 {
		l := d.lines(d.comp())
		for range d.IntN(4) {
			at := d.IntN(len(l) + 1)
			l = slices.Replace(l, at, min(len(l), at+d.IntN(2)), d.other(l)...)
		}
		s := d.folded(l)
		likeModel(t, s)
		_, e := comp.Parse(s)
		told[e]++
	}
	for _, e := range []api.Errno{api.OK, api.ErrForm, api.ErrShort, api.ErrLong, api.ErrMany, api.ErrDeep, api.ErrMatch} {
		if told[e] < 100 {
			t.Errorf("%d is told but %d times", e, told[e])
		}
	}
}

// TestAlikeSpelt (P12.7): whatever a text is, letters of names turned great or small, and lines folded elsewhere, change nothing.
func TestAlikeSpelt(t *testing.T) {
	d := newDrawer(3)
	for range 4000 {
		l := d.lines(d.comp())
		for range d.IntN(3) {
			at := d.IntN(len(l) + 1)
			l = slices.Replace(l, at, min(len(l), at+d.IntN(2)), d.other(l)...)
		}
		l = slices.DeleteFunc(l, func(one string) bool { return one == "" || strings.IndexByte(" \t", one[0]) >= 0 })
		want, e := comp.Parse(line.Fold(l))
		for range 3 {
			if s := d.folded(d.turned(l)); len(s) <= 8192 && e != api.ErrLong {
				check(t, s, want, e)
			}
		}
	}
}

// FuzzParse: any text; what is read is written, if that may be, and read as the same; what is not is like the model.
func FuzzParse(f *testing.F) {
	for _, s := range []string{"", "X:1", "BEGIN:A", "BEGIN:A\nEND:B", "begin:a\nx:1\nBEGIN:B\nEND:b\nEND:A", "BEGIN:A\r\n X\nEND;X=1:A\n", times("BEGIN:A\n", 13), times("BEGIN:A\n", 12) + times("END:A\n", 12), "BEGIN:A\nX;Y=\"1\":2\nEND:A\nZ", times("x", 1025)} {
		f.Add(s)
	}
	f.Fuzz(func(t *testing.T, s string) {
		likeModel(t, s)
		likeModel(t, "BEGIN:A\n"+s+"\nEND:A")
		printLikeModel(t, of(s, prop("X", "1"), of("B")))
		printLikeModel(t, of("A", prop(s, s), of(s)))
		printLikeModel(t, of("A", prop("X", s, param("Y", s)), of("B")))
	})
}
