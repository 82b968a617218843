package xml_test

import (
	"fmt"
	"slices"
	"strings"
	"testing"
	"unicode/utf8"

	"almanac/api"
	"almanac/xml"
)

// deepCopy is an element that shares nothing with another one.
func deepCopy(e api.Elem) api.Elem {
	e.Attrs = append([]api.Attr{}, e.Attrs...)
	kids := e.Kids
	e.Kids = nil
	for _, kid := range kids {
		e.Kids = append(e.Kids, deepCopy(kid))
	}
	return e
}

// printed is what Print is to tell of an element that is fit and stands in one of that space.
func printed(e api.Elem, around string) string {
	escape := strings.NewReplacer("&", "&amp;", "<", "&lt;", ">", "&gt;", `"`, "&quot;").Replace
	s := "<" + e.Name
	if e.Space != around {
		s += ` xmlns="` + escape(e.Space) + `"`
	}
	for _, a := range e.Attrs {
		s += " " + a.Name + `="` + escape(a.Value) + `"`
	}
	in := escape(e.Text)
	for _, kid := range e.Kids {
		in += printed(kid, e.Space)
	}
	if in == "" {
		return s + "/>"
	}
	return s + ">" + in + "</" + e.Name + ">"
}

// broken is Fit and Print of what is not fit.
func broken(t *testing.T, what string, e api.Elem) {
	t.Helper()
	if xml.Fit(e) {
		t.Errorf("Fit of %s: %.200q", what, fmt.Sprint(e))
	}
	if got := xml.Print(e); got != "" {
		t.Errorf("Print of %s, which is not fit, is %.200q", what, got)
	}
}

// whole is Fit and Print of what is fit.
func whole(t *testing.T, what string, e api.Elem) {
	t.Helper()
	if !xml.Fit(e) {
		t.Errorf("not Fit of %s: %.200q", what, fmt.Sprint(e))
	}
	if got, want := xml.Print(e), printed(e, ""); got != want {
		t.Errorf("Print of %s is %.300q, want %.300q", what, got, want)
	}
}

// placed is an element without kids at each of the places that it may have in others, and how that is called.
func placed(e api.Elem) map[string]api.Elem {
	deep := e
	for range 11 {
		deep = el("u", "d", at("b", ""), "x", deep)
	}
	many := el("u", "m", at("b", ""))
	for range 398 {
		many.Kids = append(many.Kids, el("v", "k"))
	}
	last, first := deepCopy(many), deepCopy(many)
	last.Kids = append(last.Kids, e)
	first.Kids = slices.Insert(first.Kids, 0, e)
	return map[string]api.Elem{
		"the root":               e,
		"a kid":                  el("", "a", e),
		"one of three":           el("", "a", el("", "b"), e, el("", "c")),
		"a kid's kid":            el("", "a", el("", "b"), el("", "c", el("", "d"), e)),
		"the twelfth in another": deep,
		"the last of 400":        last,
		"the first kid of 400":   first,
	}
}

// atAll is whole, or broken, of an element at each place.
func atAll(t *testing.T, what string, e api.Elem, fit bool) {
	t.Helper()
	for where, e := range placed(e) {
		if fit {
			whole(t, what+" as "+where, e)
		} else {
			broken(t, what+" as "+where, e)
		}
	}
}

// TestFitNames (P9.2): names of elements and of attributes, each byte in them, and how long they may be.
func TestFitNames(t *testing.T) {
	short := "_" + strings.Repeat("a", 63)
	names := map[string]bool{
		"a": true, "Z": true, "_": true, "xmlns": true, "xml": true, "a-._9Z": true, "__": true, "a.": true, short: true, short[1:]: true, "xmlnsx": true, "XMLNS": true, "xmln": true,
		"": false, short + "a": false, strings.Repeat("a", 1000): false, "1a": false, "-a": false, ".a": false, ":a": false, "a:": false, "a:b": false, "xmlns:a": false, "a b": false, " a": false, "a ": false, "a\n": false, "é": false, "aé": false, "a\xff": false, "\xffa": false, "a\x00": false, "\x00a": false, "a/": false, "a>": false, "a=": false, "\u0130": false, "a\x80": false,
	}
	for name, fit := range names {
		atAll(t, "the name "+name, el("u", name), fit)
		fit = fit && name != "xmlns"
		atAll(t, "the attribute "+name, el("", "a", at("p", "1"), at(name, "1"), at("q", "1")), fit)
		atAll(t, "the attribute "+name+" alone", el("u", "a", at(name, "u")), fit)
	}
	for b := range 256 {
		one := string([]byte{byte(b)})
		for _, name := range []string{one, one + "x", "x" + one, "x" + one + "x", short[:62] + one + "x", short[:63] + one} {
			is := broken
			if strings.Contains(nexts, one) && (name[0] != one[0] || strings.Contains(letters, one)) {
				is = whole
			}
			is(t, "the name "+name, el("u", name))
			is(t, "a kid with the name "+name, el("", "a", el("", name)))
			is(t, "the attribute "+name, el("", "a", at("b-", "1"), at(name, "1")))
		}
	}
}

// TestFitTexts (P9.2): spaces, values and texts that are no UTF-8 or have a byte 0, at either end and within.
func TestFitTexts(t *testing.T) {
	long := strings.Repeat("x", 9000)
	for s, fit := range map[string]bool{
		"": true, "x": true, " \t\r\n": true, "\x01\x1f\x7f": true, `&<>"'`: true, "é\u20ac\U0001f600": true, "\ud7ff\ue000\ufffe\uffff\U0010ffff": true, "\ufffd": true, long: true, "xmlns": true, lang: true,
		"\x00": false, "\xff": false, "\x80": false, "\xc3": false, "\xc0\x80": false, "\xed\xa0\x80": false, "\xed\xbf\xbf": false, "\xf4\x90\x80\x80": false, "\xe2\x82": false, "\xc1\xbf": false,
	} {
		for _, s := range []string{s, "x" + s, s + "x", "é" + s + "é", long + s} {
			what := fmt.Sprintf("%.20q", s)
			atAll(t, "the space "+what, el(s, "a"), fit)
			atAll(t, "the text "+what, el("u", "a", s), fit)
			atAll(t, "the value "+what, el("u", "a", at("b", "x"), at("c", s), at("d", "x")), fit)
			atAll(t, "the one value "+what, el("", "a", at("b", s)), fit)
		}
	}
}

// TestFitAttrs (P9.2): attributes with a space, and twice by their names, at either end of a list and within.
func TestFitAttrs(t *testing.T) {
	for n := 1; n <= 5; n++ {
		e := el("u", "a")
		for k := range n {
			e.Attrs = append(e.Attrs, at(string(rune('a'+k)), "1"))
		}
		atAll(t, "attributes", e, true)
		for k := range n {
			for _, space := range []string{"u", "v", " ", lang, "\x00"} {
				other := deepCopy(e)
				other.Attrs[k].Space = space
				atAll(t, fmt.Sprint("the space of attribute ", k, " of ", n), other, false)
			}
			for j := range n {
				for _, value := range []string{"1", "2", ""} {
					other := deepCopy(e)
					other.Attrs[k] = at(e.Attrs[j].Name, value)
					atAll(t, fmt.Sprint("attribute ", j, " again as ", k, " of ", n), other, j == k)
				}
			}
			for name, fit := range map[string]bool{"A": true, "aa": true, "xml": true, "xmlns": false, "a:a": false} {
				other := deepCopy(e)
				other.Attrs[k].Name = name
				atAll(t, fmt.Sprint("attribute ", k, " of ", n, " with the name ", name), other, fit)
			}
		}
	}
	many := el("", "a")
	for k := range 3000 {
		many.Attrs = append(many.Attrs, at(fmt.Sprint("a", k), ""))
	}
	whole(t, "3000 attributes", many)
	many.Attrs = append(many.Attrs, at("a0", "x"))
	broken(t, "3001 attributes", many)
	whole(t, "one attribute in two elements", el("u", "a", at("b", "1"), el("u", "a", at("b", "1")), el("u", "a", at("b", "1"))))
}

// chain is so many elements in one another.
func chain(n int) api.Elem {
	e := el("", "z")
	for range n - 1 {
		e = el("", "a", e)
	}
	return e
}

// flat is so many elements, all but one in that one.
func flat(n int) api.Elem {
	e := el("", "a")
	for range n - 1 {
		e.Kids = append(e.Kids, el("", "b"))
	}
	return e
}

// TestFitDeep (P9.2): 12 elements in one another and 13, wherever the deepest one stands.
func TestFitDeep(t *testing.T) {
	for n := 1; n <= 12; n++ {
		whole(t, fmt.Sprint(n, " in one another"), chain(n))
	}
	for _, n := range []int{13, 14, 100, 400, 1 << 16} {
		broken(t, fmt.Sprint(n, " in one another"), chain(n))
	}
	for _, beside := range []int{0, 1, 5} {
		for at := 0; at <= beside; at++ {
			for n, fit := range map[int]bool{10: true, 11: true, 12: false, 13: false} {
				e := flat(1 + beside)
				e.Kids = slices.Insert(e.Kids, at, chain(n))
				if xml.Fit(e) != fit {
					t.Errorf("Fit with %d in one another, %d-th of %d, is not %v", n+1, at, beside+1, fit)
				}
				e = el("", "a", el("", "b", chain(5)), e)
				if fit := n < 11; xml.Fit(e) != fit {
					t.Errorf("Fit with %d in one another, %d-th of %d, is not %v", n+2, at, beside+1, fit)
				}
			}
		}
	}
}

// TestFitMany (P9.2): 400 elements and 401, however they stand in one another.
func TestFitMany(t *testing.T) {
	whole(t, "400 elements", flat(400))
	for _, n := range []int{401, 402, 500, 800, 100000} {
		broken(t, fmt.Sprint(n, " elements"), flat(n))
	}
	for _, kids := range []int{1, 2, 7, 20} {
		for _, more := range []int{0, 1} {
			e, left := el("", "a"), 399+more
			for left > 0 {
				n := min(left, kids)
				e.Kids = append(e.Kids, flat(n))
				left -= n
			}
			if xml.Fit(e) != (more == 0) {
				t.Errorf("Fit of %d elements, %d of them in each other one, is %v", 400+more, kids, more != 0)
			}
		}
	}
	e := flat(399)
	for k := range e.Kids {
		other := deepCopy(e)
		other.Kids[k].Kids = []api.Elem{el("", "c")}
		whole(t, "400 elements", other)
		other.Kids[k].Kids = []api.Elem{el("", "c"), el("", "c")}
		broken(t, "401 elements", other)
	}
	deep := chain(11)
	for range 389 {
		last := &deep
		for len(last.Kids) > 0 && last.Kids[0].Name == "a" {
			last = &last.Kids[0]
		}
		last.Kids = append(last.Kids, el("", "b"))
	}
	whole(t, "400 elements, 12 deep", deep)
	deep.Kids = append(deep.Kids, el("", "b"))
	broken(t, "401 elements, 12 deep", deep)
}

// TestFitEnds (0.1): Fit and Print of what has no end.
func TestFitEnds(t *testing.T) {
	for _, n := range []int{1, 2, 50} {
		e := flat(n + 1)
		for k := range e.Kids {
			e.Kids[k].Kids = e.Kids
		}
		broken(t, "a circle", e)
	}
}

// TestEscape (P9.3): each byte, and each pair of those that matter.
func TestEscape(t *testing.T) {
	others := map[string]string{"&": "&amp;", "<": "&lt;", ">": "&gt;", `"`: "&quot;"}
	whole, want := "", ""
	for b := range 256 {
		s := string([]byte{byte(b)})
		one, ok := others[s]
		if !ok {
			one = s
		}
		if got := xml.Escape(s); got != one {
			t.Errorf("Escape(%q) = %q, want %q", s, got, one)
		}
		whole, want = whole+s, want+one
	}
	if got := xml.Escape(whole + whole); got != want+want {
		t.Errorf("Escape of all bytes is %q", got)
	}
	escape := strings.NewReplacer("&", "&amp;", "<", "&lt;", ">", "&gt;", `"`, "&quot;").Replace
	for s := range all("", 4, "&", "<", ">", `"`, "'", "&amp;", "é", "\xff", "\x00", "lt;") {
		if got, want := xml.Escape(s), escape(s); got != want {
			t.Errorf("Escape(%q) = %q, want %q", s, got, want)
		}
	}
	for s, want := range map[string]string{"": "", "a": "a", "a&b": "a&amp;b", "&lt;": "&amp;lt;", "<a b='c'>\"": "&lt;a b='c'&gt;&quot;", "]]>": "]]&gt;", " \n\t\r": " \n\t\r"} {
		if got := xml.Escape(s); got != want {
			t.Errorf("Escape(%q) = %q, want %q", s, got, want)
		}
	}
}

// TestPrint (P9.4): known ones: the space of the element around, another one, and "".
func TestPrint(t *testing.T) {
	for want, e := range map[string]api.Elem{
		`<a/>`:                                                    el("", "a"),
		`<a xmlns="u"/>`:                                          el("u", "a"),
		`<a xmlns="&amp;&lt;&gt;&quot;'é"/>`:                      el(`&<>"'é`, "a"),
		`<a>x</a>`:                                                el("", "a", "x"),
		`<a> </a>`:                                                el("", "a", " "),
		`<a>&amp;&lt;&gt;&quot;']]&gt;</a>`:                       el("", "a", `&<>"']]>`),
		`<a b="" c="&amp;&lt;&gt;&quot;'"/>`:                      el("", "a", at("b", ""), at("c", `&<>"'`)),
		`<a c="1" b="2">x</a>`:                                    el("", "a", at("c", "1"), at("b", "2"), "x"),
		`<a xmlns="u" b="1"/>`:                                    el("u", "a", at("b", "1")),
		`<a><b/></a>`:                                             el("", "a", el("", "b")),
		`<a><b/><b/><c/></a>`:                                     el("", "a", el("", "b"), el("", "b"), el("", "c")),
		`<a>xy<b>z</b><c/></a>`:                                   el("", "a", "x", el("", "b", "z"), "y", el("", "c")),
		`<a xmlns="u"><b/></a>`:                                   el("u", "a", el("u", "b")),
		`<a xmlns="u"><b xmlns=""/></a>`:                          el("u", "a", el("", "b")),
		`<a xmlns="u"><b xmlns="v"/></a>`:                         el("u", "a", el("v", "b")),
		`<a><b xmlns="u"/></a>`:                                   el("", "a", el("u", "b")),
		`<a><b xmlns="u"/><c/></a>`:                               el("", "a", el("u", "b"), el("", "c")),
		`<a xmlns="u"><b xmlns="v"/><c/></a>`:                     el("u", "a", el("v", "b"), el("u", "c")),
		`<a xmlns="u"><b xmlns="v"/><c xmlns="v"/></a>`:           el("u", "a", el("v", "b"), el("v", "c")),
		`<a xmlns="u"><b xmlns="v"><c/><d xmlns="u"/></b></a>`:    el("u", "a", el("v", "b", el("v", "c"), el("u", "d"))),
		`<a xmlns="u"><b xmlns=""><c/><d xmlns="u"/></b><e/></a>`: el("u", "a", el("", "b", el("", "c"), el("u", "d")), el("u", "e")),
		`<a xmlns="u"><b xmlns="" c="d">x</b></a>`:                el("u", "a", el("", "b", at("c", "d"), "x")),
		`<xmlns xmlns="http://www.w3.org/XML/1998/namespace"/>`:   el(lang, "xmlns"),
		"<a b=\"\r\n\t\">\r\n\t</a>":                              el("", "a", at("b", "\r\n\t"), "\r\n\t"),
	} {
		if got := xml.Print(e); got != want {
			t.Errorf("Print(%q) = %q, want %q", fmt.Sprint(e), got, want)
		}
		if printed(e, "") != want {
			t.Errorf("printed(%q) = %q, want %q", fmt.Sprint(e), printed(e, ""), want)
		}
	}
	e := el("", "a", strings.Repeat("&", 5000))
	if got, want := xml.Print(e), "<a>"+strings.Repeat("&amp;", 5000)+"</a>"; got != want {
		t.Errorf("Print of a long text is %d bytes, want %d", len(got), len(want))
	}
	e.Attrs, e.Kids = []api.Attr{}, []api.Elem{}
	e.Text = ""
	if got := xml.Print(e); got != "<a/>" {
		t.Errorf("Print of an element with empty lists is %q", got)
	}
}

// changes is elements that differ from one in one field each, at each depth.
func changes(e api.Elem) []api.Elem {
	var l []api.Elem
	change := func(how func(*api.Elem)) {
		other := deepCopy(e)
		how(&other)
		l = append(l, other)
	}
	change(func(o *api.Elem) { o.Space += "x" })
	change(func(o *api.Elem) { o.Name += "x" })
	change(func(o *api.Elem) { o.Text += "x" })
	change(func(o *api.Elem) { o.Text += " " })
	if e.Space != e.Name {
		change(func(o *api.Elem) { o.Space, o.Name = o.Name, o.Space })
	}
	if e.Text != "" {
		change(func(o *api.Elem) { o.Name, o.Text = o.Name+o.Text, "" })
	}
	change(func(o *api.Elem) { o.Attrs = append(o.Attrs, api.Attr{}) })
	change(func(o *api.Elem) { o.Attrs = slices.Insert(o.Attrs, 0, at("b", "")) })
	change(func(o *api.Elem) { o.Kids = append(o.Kids, api.Elem{}) })
	change(func(o *api.Elem) { o.Kids = slices.Insert(o.Kids, 0, el("u", "k")) })
	for k := range e.Attrs {
		change(func(o *api.Elem) { o.Attrs[k].Space += "x" })
		change(func(o *api.Elem) { o.Attrs[k].Name += "x" })
		change(func(o *api.Elem) { o.Attrs[k].Value += "x" })
		change(func(o *api.Elem) { o.Attrs = slices.Delete(o.Attrs, k, k+1) })
		if k > 0 {
			change(func(o *api.Elem) { o.Attrs[k], o.Attrs[k-1] = o.Attrs[k-1], o.Attrs[k] })
		}
	}
	for k := range e.Kids {
		change(func(o *api.Elem) { o.Kids = slices.Delete(o.Kids, k, k+1) })
		if k > 0 && !alike(e.Kids[k], e.Kids[k-1]) {
			change(func(o *api.Elem) { o.Kids[k], o.Kids[k-1] = o.Kids[k-1], o.Kids[k] })
		}
		for _, kid := range changes(e.Kids[k]) {
			change(func(o *api.Elem) { o.Kids[k] = kid })
		}
	}
	return l
}

// same holds Same of two, in both orders, against what it is to tell.
func same(t *testing.T, a, b api.Elem, want bool) {
	t.Helper()
	if xml.Same(a, b) != want || xml.Same(b, a) != want {
		t.Errorf("Same of %.200q and %.200q is not %v", fmt.Sprint(a), fmt.Sprint(b), want)
	}
}

// TestSame (P9.5): elements that differ in one field, at each depth, fit or not.
func TestSame(t *testing.T) {
	one := el("u", "a", at("b", "1"), api.Attr{Space: "v", Name: "c", Value: "2"}, "x", el("u", "k"), el("w", "k", at("d", ""), "y", el("", "l", el("", "m", at("f", "g"), "z"))), el("u", "k"))
	for _, e := range []api.Elem{{}, el("", "a"), el("", "1", "\xff"), one, chain(14), flat(20), el("", "", one, one, el("\x00", "", at("xmlns", "\x00")))} {
		same(t, e, e, true)
		same(t, e, deepCopy(e), true)
		for _, other := range changes(e) {
			same(t, e, other, false)
			same(t, other, deepCopy(other), true)
		}
	}
	same(t, api.Elem{}, api.Elem{Attrs: []api.Attr{}, Kids: []api.Elem{}}, true) // a list that is not there, and an empty one
	same(t, el("ab", "c"), el("a", "bc"), false)
	same(t, el("", "a", at("bc", "")), el("", "a", at("b", "c")), false)
	same(t, el("", "a", at("b", "1"), at("c", "2")), el("", "a", at("c", "2"), at("b", "1")), false)
	same(t, el("", "a", el("", "b", el("", "c"))), el("", "a", el("", "b"), el("", "c")), false)
	same(t, el("", "a", "x", el("", "b")), el("", "a", el("", "b", "x")), false)
	same(t, el("u", "a"), el("U", "a"), false)
	same(t, chain(1<<16), chain(1<<16), true)
	same(t, chain(1<<16), chain(1<<16-1), false)
}

// kidsOf holds Kids and Kid against what they are to tell.
func kidsOf(t *testing.T, e api.Elem, space, name string, want ...api.Elem) {
	t.Helper()
	got := xml.Kids(e, space, name)
	if !slices.EqualFunc(got, want, alike) {
		t.Errorf("Kids(%q, %q, %q) = %q, want %q", fmt.Sprint(e), space, name, fmt.Sprint(got), fmt.Sprint(want))
	}
	one, ok := xml.Kid(e, space, name)
	if len(want) == 0 {
		want = []api.Elem{{}}
		if ok || one.Attrs != nil || one.Kids != nil || len(got) != 0 {
			t.Errorf("Kid(%q, %q, %q) is there", fmt.Sprint(e), space, name)
		}
	} else if !ok {
		t.Errorf("Kid(%q, %q, %q) is not there", fmt.Sprint(e), space, name)
	}
	if !alike(one, want[0]) {
		t.Errorf("Kid(%q, %q, %q) = %q, want %q", fmt.Sprint(e), space, name, fmt.Sprint(one), fmt.Sprint(want[0]))
	}
}

// TestKids (P9.6): none, one, several, of another space with the name, and those that stand further in.
func TestKids(t *testing.T) {
	b1, b2, b3 := el("u", "b", "1"), el("u", "b", at("x", "y"), el("u", "b", "2")), el("u", "b")
	v, c, none := el("v", "b", "v", el("u", "c")), el("u", "c", el("u", "b")), el("", "b", "n")
	kidsOf(t, api.Elem{}, "", "")
	kidsOf(t, el("u", "b"), "u", "b")
	kidsOf(t, el("u", "b", b1), "u", "b", b1)
	kidsOf(t, el("u", "a", v, c, none), "u", "b")
	kidsOf(t, el("u", "a", v, b1, c), "u", "b", b1)
	e := el("u", "a", v, b1, none, b2, c, b3, b1, v)
	kidsOf(t, e, "u", "b", b1, b2, b3, b1)
	kidsOf(t, e, "v", "b", v, v)
	kidsOf(t, e, "", "b", none)
	kidsOf(t, e, "u", "c", c)
	kidsOf(t, e, "v", "c")
	kidsOf(t, e, "U", "b")
	kidsOf(t, e, "u", "B")
	kidsOf(t, e, "b", "u")
	kidsOf(t, e, "", "ub")
	kidsOf(t, e, "ub", "")
	kidsOf(t, e, "u", "")
	kidsOf(t, e, "u", "a")
	kidsOf(t, el("", "a", el("", ""), el("\xff", "\x00")), "", "", el("", ""))
	kidsOf(t, el("", "a", el("", ""), el("\xff", "\x00")), "\xff", "\x00", el("\xff", "\x00"))
	many := flat(1000)
	kidsOf(t, many, "", "b", many.Kids...)
	deep := el("", "r", chain(1<<15))
	kidsOf(t, deep, "", "a", deep.Kids...)
}

// TestValue (P9.7): blanks of each kind at either end and within; others are none.
func TestValue(t *testing.T) {
	for b := range 256 {
		s := string([]byte{byte(b)})
		for _, text := range []string{s, s + "x", "x" + s, "x" + s + "y", s + "x" + s, s + s + "x y" + s + s} {
			want := text
			if strings.Contains(spaced, s) {
				want = strings.TrimLeft(strings.TrimRight(text, s), s)
			}
			if got := xml.Value(el("u", "a", at("b", " c "), text, el("", "d", " e "))); got != want {
				t.Errorf("Value of %q is %q, want %q", text, got, want)
			}
		}
	}
	for s := range all("", 5, " ", "\t", "\n", "\r", "x", "\v", "\u00a0") {
		want := s
		for want != "" && strings.Contains(spaced, want[:1]) {
			want = want[1:]
		}
		for want != "" && strings.Contains(spaced, want[len(want)-1:]) {
			want = want[:len(want)-1]
		}
		if got := xml.Value(api.Elem{Text: s}); got != want {
			t.Errorf("Value of %q is %q, want %q", s, got, want)
		}
	}
}

// backAgain is P9.8 of any text.
func backAgain(t *testing.T, s string) {
	t.Helper()
	e, f := xml.Parse(s)
	if f != api.OK {
		if !alike(e, api.Elem{}) {
			t.Errorf("Parse(%q) tells %q beside %d", s, fmt.Sprint(e), f)
		}
		return
	}
	p := xml.Print(e)
	if hasSpace(e) {
		if p != "" || xml.Fit(e) {
			t.Errorf("Print of what Parse(%q) tells, which has a Space, is %q", s, p)
		}
		return
	}
	if !xml.Fit(e) || p != printed(e, "") {
		t.Errorf("Print of what Parse(%q) tells is %q", s, p)
	}
	if len(p) > 8192 {
		fails(t, p, api.ErrLong)
		return
	}
	check(t, p, e, api.OK)
	again, _ := xml.Parse(p)
	if !xml.Same(again, e) {
		t.Errorf("Parse(%q) and Parse(%q) are not the same", s, p)
	}
}

// hasSpace tells whether an attribute in an element has a Space.
func hasSpace(e api.Elem) bool {
	return slices.ContainsFunc(e.Attrs, func(a api.Attr) bool { return a.Space != "" }) || slices.ContainsFunc(e.Kids, hasSpace)
}

// TestThereAndBack (P9.8): what is drawn and fit is printed and read as the same.
func TestThereAndBack(t *testing.T) {
	d := newDrawer(3)
	short, long := 0, 0
	for range 6000 {
		e := d.elem(false)
		if !xml.Fit(e) {
			t.Fatalf("not Fit(%q)", fmt.Sprint(e))
		}
		p := xml.Print(e)
		if p != printed(e, "") {
			t.Errorf("Print(%q) = %q", fmt.Sprint(e), p)
		}
		if len(p) > 8192 {
			fails(t, p, api.ErrLong)
			long++
			continue
		}
		short++
		got, f := xml.Parse(p)
		if f != api.OK || !xml.Same(got, e) || !alike(got, e) {
			t.Errorf("Parse of Print(%q) = %q, %d", fmt.Sprint(e), fmt.Sprint(got), f)
		}
	}
	if short < 4000 || long < 100 {
		t.Errorf("%d drawn are short, %d long", short, long)
	}
	for _, e := range []api.Elem{chain(12), flat(400), el("", "a", strings.Repeat("x", 8185)), el(strings.Repeat("u", 8175), "a"), el("", "a", at("b", strings.Repeat("&", 1636)))} {
		p := xml.Print(e)
		if len(p) > 8192 || p == "" {
			t.Errorf("Print of %.50q is %d bytes", fmt.Sprint(e), len(p))
		}
		check(t, p, e, api.OK)
	}
	e := el("", "a", strings.Repeat("x", 8186))
	whole(t, "8186 bytes", e)
	fails(t, xml.Print(e), api.ErrLong)
}

// TestThereAndBackTexts (P9.8): what is read of drawn texts, printed and read again, is the same.
func TestThereAndBackTexts(t *testing.T) {
	d := newDrawer(4)
	for n := range 5000 {
		e := d.elem(n%2 == 0)
		s := d.text(e)
		if len(s) <= 8192 {
			check(t, s, e, api.OK)
			backAgain(t, s)
			likeModel(t, s)
		}
	}
	for _, s := range stock {
		backAgain(t, s)
		for range 5000 {
			changed := changedOnce(d.Rand, s)
			if utf8.ValidString(changed) {
				backAgain(t, changedOnce(d.Rand, changed))
			}
		}
	}
}

// TestAround (P9.9): comments and blanks around, and another prefix for a space, change nothing; of drawn elements, however they are written.
func TestAround(t *testing.T) {
	const s = `<~x b="1" ~c="2"><~y><z/></~y>w</~x>`
	want := el("u", "x", at("b", "1"), api.Attr{Space: "u", Name: "c", Value: "2"}, "w", el("u", "y", el("", "z")))
	for _, prefix := range []string{"p", "q", "D", "x", "b", "_", "xm", "xmlx", "xmln", "XML", "XMLNS", "a.b-9", strings.Repeat("p", 64)} {
		text := strings.ReplaceAll(s, "~", prefix+":")
		check(t, strings.Replace(text, " ", " xmlns:"+prefix+`="u" `, 1), want, api.OK)
		check(t, strings.Replace(text, ">", " xmlns:"+prefix+`="u">`, 1), want, api.OK)
		check(t, strings.Replace(text, ">", " xmlns:"+prefix+`="&#117;" xmlns="">`, 1), want, api.OK)
		check(t, strings.Replace(text, ">", " xmlns:other=\"u\" xmlns:"+prefix+"='u'>", 1), want, api.OK)
	}
	d := newDrawer(5)
	for range 500 {
		e := d.elem(true)
		for range 8 {
			if text := d.text(e); len(text) <= 8192 {
				check(t, text, e, api.OK)
			}
			if p := xml.Print(e); p != "" && len(p) < 7000 {
				check(t, d.around()+p+d.around(), e, api.OK)
				check(t, decl+d.around()+p+d.around(), e, api.OK)
			}
		}
	}
}

// spoil writes into all lists of an element, and behind them as far as they reach.
func spoil(e api.Elem) {
	for _, kid := range e.Kids {
		spoil(kid)
	}
	for k := range e.Attrs[:cap(e.Attrs)] {
		e.Attrs[:cap(e.Attrs)][k] = api.Attr{Space: "spoilt"}
	}
	for k := range e.Kids[:cap(e.Kids)] {
		e.Kids[:cap(e.Kids)][k] = api.Elem{Space: "spoilt"}
	}
}

// TestNothingShared (0.5): nothing changes what it is given, and no answer shares a list with that, or with another one.
func TestNothingShared(t *testing.T) {
	attrs := append(make([]api.Attr, 0, 9), at("b", "1"), at("c", "2"))
	kids := append(make([]api.Elem, 0, 9), el("u", "k", at("d", "3"), el("", "l", at("e", "4"))))
	twin := api.Elem{Space: "u", Name: "b", Attrs: attrs, Kids: kids}
	e := api.Elem{Space: "u", Name: "a", Attrs: attrs, Text: " x ", Kids: append(make([]api.Elem, 0, 9), twin, twin, el("v", "b"))}
	was, twinWas := deepCopy(e), deepCopy(twin)
	behind := e.Kids[:9][3]
	for range 2 {
		xml.Fit(e)
		xml.Print(e)
		xml.Value(e)
		if !xml.Same(e, was) {
			t.Error("Same")
		}
		one, _ := xml.Kid(e, "u", "b")
		two, _ := xml.Kid(e, "u", "b")
		l, m := xml.Kids(e, "u", "b"), xml.Kids(e, "u", "b")
		spoil(one)
		if !alike(two, twinWas) {
			t.Error("two answers of Kid share a list")
		}
		spoil(l[0])
		if !alike(l[1], twinWas) {
			t.Error("two of Kids share a list")
		}
		spoil(api.Elem{Kids: l})
		if !slices.EqualFunc(m, []api.Elem{twinWas, twinWas}, alike) {
			t.Error("two answers of Kids share a list")
		}
		if !alike(e, was) || !alike(e.Kids[:9][3], behind) || len(attrs[:3][2].Name) > 0 {
			t.Fatal("what Kid or Kids tell shares a list with what they were given")
		}
	}
	s := `<a b="" c=""><b d="" e="" f=""/><c d="" e="" f=""><x/><y/><z/></c></a>`
	one, _ := xml.Parse(s)
	two, _ := xml.Parse(s)
	was = deepCopy(two)
	spoil(one.Kids[0])
	if !alike(one.Kids[1], was.Kids[1]) || !slices.Equal(one.Attrs, was.Attrs) {
		t.Error("two lists that Parse tells are one")
	}
	spoil(one)
	if !alike(two, was) {
		t.Error("two answers of Parse share a list")
	}
}
