package xml_test

import (
	stdxml "encoding/xml"
	"errors"
	"fmt"
	"io"
	"math/rand/v2"
	"slices"
	"strings"
	"testing"

	"almanac/api"
	"almanac/xml"
)

const decl = `<?xml version="1.0" encoding="utf-8"?>`

// el is an element: of what is told behind its name, attributes are its own, texts are joined, elements stand in it.
func el(space, name string, in ...any) api.Elem {
	e := api.Elem{Space: space, Name: name}
	for _, x := range in {
		switch x := x.(type) {
		case api.Attr:
			e.Attrs = append(e.Attrs, x)
		case string:
			e.Text += x
		case api.Elem:
			e.Kids = append(e.Kids, x)
		}
	}
	return e
}

// at is an attribute without a space.
func at(name, value string) api.Attr { return api.Attr{Name: name, Value: value} }

// alike tells whether two elements are the same in all that can be seen of them.
func alike(a, b api.Elem) bool {
	return a.Space == b.Space && a.Name == b.Name && a.Text == b.Text && slices.Equal(a.Attrs, b.Attrs) && slices.EqualFunc(a.Kids, b.Kids, alike)
}

// check holds what Parse tells against what it is to tell.
func check(t *testing.T, s string, want api.Elem, e api.Errno) {
	t.Helper()
	if got, f := xml.Parse(s); f != e || !alike(got, want) {
		t.Errorf("Parse(%.300q) = %.300q, %d, want %.300q, %d", s, fmt.Sprint(got), f, fmt.Sprint(want), e)
	}
}

// fails is check of what can't be read.
func fails(t *testing.T, s string, e api.Errno) {
	t.Helper()
	check(t, s, api.Elem{}, e)
}

// likeModel is check against the model.
func likeModel(t *testing.T, s string) {
	t.Helper()
	want, e := modelParse(s)
	check(t, s, want, e)
}

// all hands out all texts of up to n of the pieces behind a beginning.
func all(begin string, n int, pieces ...string) func(func(string) bool) {
	return func(yield func(string) bool) { allOf(begin, n, pieces, yield) }
}

func allOf(s string, n int, pieces []string, yield func(string) bool) bool {
	if !yield(s) {
		return false
	}
	for _, p := range pieces {
		if n > 0 && !allOf(s+p, n-1, pieces, yield) {
			return false
		}
	}
	return true
}

// ascii is each byte from 1 to 127 as a text.
func ascii() []string {
	var l []string
	for b := 1; b < 128; b++ {
		l = append(l, string(rune(b)))
	}
	return l
}

// TestExamples: the chapter's examples.
func TestExamples(t *testing.T) {
	s := `<D:a xmlns:D="DAV:" b="1"><D:c/>x</D:a>`
	e := el("DAV:", "a", at("b", "1"), "x", el("DAV:", "c"))
	check(t, s, e, api.OK)
	if got, want := xml.Print(e), `<a xmlns="DAV:" b="1">x<c/></a>`; got != want {
		t.Errorf("Print(%q) = %q, want %q", fmt.Sprint(e), got, want)
	}
	fails(t, `<a>`, api.ErrShort)
	fails(t, `<a></b>`, api.ErrMatch)
	fails(t, `<p:a/>`, api.ErrName)
	fails(t, `<a b="1" b="2"/>`, api.ErrTwice)
	fails(t, `<!DOCTYPE a>`, api.ErrForm)
}

// TestParseForms (P9.1): what an element tells, of each thing that can stand in a text.
func TestParseForms(t *testing.T) {
	for s, want := range map[string]api.Elem{
		`<a/>`:                                  el("", "a"),
		`<a></a>`:                               el("", "a"),
		`<a> x </a>`:                            el("", "a", " x "),
		`<a>é` + "\u20ac\U0001f600" + `</a>`:    el("", "a", "é\u20ac\U0001f600"),
		`<a>x<b/>y<b/>z</a>`:                    el("", "a", "xyz", el("", "b"), el("", "b")),
		`<a><b>1<c>2</c>3</b><d>4</d>5</a>`:     el("", "a", "5", el("", "b", "13", el("", "c", "2")), el("", "d", "4")),
		`<a b="1" c='2' d=""/>`:                 el("", "a", at("b", "1"), at("c", "2"), at("d", "")),
		`<a c="1" b="1" _="1" B="1"/>`:          el("", "a", at("c", "1"), at("b", "1"), at("_", "1"), at("B", "1")),
		`<a b="'" c='"' d="'x'" e='"x"'/>`:      el("", "a", at("b", "'"), at("c", `"`), at("d", "'x'"), at("e", `"x"`)),
		`<a b=">/>" c="é` + "\t\n\r" + `]]>"/>`: el("", "a", at("b", ">/>"), at("c", "é\t\n\r]]>")),
		`<a>"'>]]>/=;#?!--></a>`:                el("", "a", `"'>]]>/=;#?!-->`),
		"<a>\r\n\r\t \x01\x7f</a>":              el("", "a", "\r\n\r\t \x01\x7f"),
		`<_a-b.c9/>`:                            el("", "_a-b.c9"),
		`<xml/>`:                                el("", "xml"),
		`<xmlns/>`:                              el("", "xmlns"),
		`<xmlns xml="1"/>`:                      el("", "xmlns", at("xml", "1")),
		`<xml:a/>`:                              el(lang, "a"),
		`<a xml:lang="de"/>`:                    el("", "a", api.Attr{Space: lang, Name: "lang", Value: "de"}),
		`<a xml:xmlns="1" lang="de"/>`:          el("", "a", api.Attr{Space: lang, Name: "xmlns", Value: "1"}, at("lang", "de")),
		`<p:xmlns xmlns:p="u" p:xmlns="1"/>`:    el("u", "xmlns", api.Attr{Space: "u", Name: "xmlns", Value: "1"}),
		`<a p:b="1" xmlns="v" xmlns:p="u"/>`:    el("v", "a", api.Attr{Space: "u", Name: "b", Value: "1"}),
		`<p:a b="1" xmlns:p="u" p:b="2" c=""/>`: el("u", "a", at("b", "1"), api.Attr{Space: "u", Name: "b", Value: "2"}, at("c", "")),
		decl + `<a/>`:                           el("", "a"),
		decl + "\n<!-- x --><a/>\n<!-- y -->\n": el("", "a"),
	} {
		check(t, s, want, api.OK)
	}
}

// TestParseLong (P9.1): MaxText bytes and one more, of what is right and what is not.
func TestParseLong(t *testing.T) {
	fill := func(n int, begin, with, end string) string {
		return begin + strings.Repeat(with, (n-len(begin)-len(end))/len(with)) + end
	}
	for _, c := range []struct {
		begin, with, end string
		e                api.Errno // if it is not too long
	}{
		{"<a>", "x", "</a>", api.OK},
		{"<a b='1'>", "\u00e9", "</a>", api.OK}, // bytes count, not what they mean
		{"<a b=\"", "x", "\"/>", api.OK},
		{"<a/>", "\n", "", api.OK},
		{"", " ", "<a/>", api.OK},
		{"<a><!--", "x", "--></a>", api.OK},
		{"<a>", "x", "<!/a>", api.ErrForm},
		{"<a>", "x", "</a", api.ErrShort},
		{"<a>", "x", "</b>", api.ErrMatch},
		{"<a>", "x", "\xff</a>", api.ErrForm},
		{"<a>", "x", "\x00</a>", api.ErrForm},
		{"\x00<a>", "x", "</a>", api.ErrForm},
		{"<a>", "x", "</a>\x00", api.ErrForm},
		{"", "x", "", api.ErrForm},
		{"", " ", "", api.ErrShort},
		{"", "\xff", "", api.ErrForm},
		{"", "\x00", "", api.ErrForm},
	} {
		s := fill(8192, c.begin, c.with, c.end)
		for len(s) < 8192 {
			s = strings.Replace(s, c.with, c.with+"y", 1)
		}
		if _, e := xml.Parse(s); e != c.e {
			t.Errorf("Parse(%.20q .. %q), of %d bytes, tells %d, want %d", s, c.end, len(s), e, c.e)
		}
		likeModel(t, s)
		for _, more := range []int{1, 2, 8192, 1 << 20} {
			fails(t, fill(len(s)+more*len(c.with), c.begin, c.with, c.end), api.ErrLong)
		}
		fails(t, s+"x", api.ErrLong)
		fails(t, "\x00"+s, api.ErrLong)
	}
	e, f := xml.Parse(fill(8192, "<a>", "x", "</a>"))
	if f != api.OK || e.Text != strings.Repeat("x", 8185) {
		t.Errorf("Parse of a text of 8192 bytes tells %d bytes, %d", len(e.Text), f)
	}
}

// TestParseBytes (P9.1): what is no UTF-8, or has a byte 0, anywhere, ahead of whatever else is wrong.
func TestParseBytes(t *testing.T) {
	for _, s := range []string{
		decl + `<!-- x --><p:a xmlns:p="u" b='1'>x&lt;<![CDATA[y]]><c/></p:a> `,
		``, `<a>`, `<a></b>`, `<p:a/>`, `<a b="" b=""/>`, `<!DOCTYPE a>`, `x`, `<` + strings.Repeat("a", 65), strings.Repeat("<a>", 13),
	} {
		for k := range len(s) + 1 {
			for _, wrong := range []string{"\x00", "\xff", "\x80", "\xc0\x80", "\xc3", "\xe2\x82", "\xed\xa0\x80", "\xf4\x90\x80\x80"} {
				fails(t, s[:k]+wrong+s[k:], api.ErrForm)
				fails(t, s[:k]+wrong, api.ErrForm)
			}
		}
	}
}

// TestParseBeyond (P9.1): what is no letter of ASCII may stand in a text, a value, a comment, CDATA, a head, and nowhere else.
func TestParseBeyond(t *testing.T) {
	const s = `<?xml ~?><!--~--><a b="~" c='~'>~<![CDATA[~]]><!--~--></a><!--~-->`
	for _, x := range []string{"é", "\u20ac", "\U0001f600", "\u00a0", "\u0085", "\u2028", "\ufeff", "\uffff", "\U0010ffff", "\u0130"} {
		check(t, strings.ReplaceAll(s, "~", x), el("", "a", at("b", x), at("c", x), x+x), api.OK)
		for k := range len(s) {
			plain := strings.ReplaceAll(s[:k], "~", "")
			likeModel(t, plain+x+s[k:])
		}
		for _, s := range []string{"~<a/>", "<~/>", "<a~/>", "<a ~/>", "<a ~b=''/>", "<a b~=''/>", "<a b=~''/>", "<a b=''~/>", "<a/~>", "<a></~a>", "<a></a~>", "<a/>~", "<a:~b/>", "<a>&~lt;</a>", "<a>&l~t;</a>", "<a>&#~65;</a>", "<~!-- x --><a/>"} {
			fails(t, strings.ReplaceAll(s, "~", x), api.ErrForm)
		}
	}
}

// places is which bytes may come: of each class that TestParsePlaces names, all of them.
var places = map[byte]string{
	'.': strings.Join(ascii(), ""),                              // in what goes on up to an end, and in text
	'v': strings.ReplaceAll(strings.Join(ascii(), ""), "<", ""), // in a value
	'^': spaced + "<",                                           // ahead of the element
	'z': spaced + "<",                                           // behind it
	'1': letters + "!?",                                         // behind the first < of all
	'<': letters + "!",                                          // behind another one ahead of the element
	'l': letters + "!/",                                         // behind one in the element
	'n': nexts + spaced + ":/>",                                 // in the element's name
	'N': nexts + spaced + "/>",                                  // behind its prefix
	':': letters,                                                // where a name begins
	'b': letters + spaced + "/>",                                // behind a blank in a beginning
	'a': nexts + spaced + ":=",                                  // in an attribute's name
	'A': nexts + spaced + "=",                                   // behind its prefix
	'e': spaced + "=",                                           // behind a blank there
	'=': spaced + "\"'",                                         // behind the =
	'q': spaced + "/>",                                          // behind a value
	'm': strings.Join(ascii(), ""),                              // in an end's name, of which more is to come: what can't go on with it is ErrMatch
	'd': nexts + spaced + ":>",                                  // behind all of it
	'D': nexts + spaced + ">",                                   // likewise, of one with a prefix
	'f': spaced + ">",                                           // behind a blank there
	'!': "-[",                                                   // behind <! in the element
	'_': spaced,                                                 // behind <?xml
	'&': "lgaq#",                                                // where a reference begins
	'@': "mp",                                                   // behind its a
	'#': "0123456789x",                                          // behind its #
	'0': "0123456789;",                                          // behind a digit
	'x': "0123456789abcdefABCDEF",                               // behind its #x
	'X': "0123456789abcdefABCDEF;",                              // behind a digit there
}

// TestParsePlaces (P9.1): each construct cut off behind each of its bytes, and with each byte at each place: ErrShort, and ErrForm where none goes on with it.
func TestParsePlaces(t *testing.T) {
	for _, c := range []struct{ s, classes string }{ // of each place its class; *: just the byte that stands there may come
		{`<a/>`, `^1n*z`},
		{`<ab />`, `^1nnb*z`},
		{`<a></a>`, `^1n.l:dz`},
		{`<a ></a >`, `^1nb.l:dfz`},
		{`<xml:a>b</xml:a>`, `^1nnn:N..l:mmm:Dz`},
		{`<a b="1"/>`, `^1nba=vvq*z`},
		{`<a b='1' c=''></a>`, `^1nba=vvqba=vq.l:dz`},
		{`<a b = "" />`, `^1nbae==vqb*z`},
		{`<a xml:b="&amp;"/>`, `^1nbaaa:A=v&@**vq*z`},
		{`<a>&lt;&gt;&quot;&apos;</a>`, `^1n.&**.&**.&****.&@***.l:dz`},
		{`<a>&#65;&#1114111;</a>`, `^1n.&#00.&#000000*.l:dz`},
		{`<a b='&#x4aF;&#x10ffff;'/>`, `^1nba=v&#xXXXv&#xXXXXX*vq*z`},
		{`<!---a--b--><a><!--->--></a><!---->`, `^1**........^<n.l!*......l:dz***...z`},
		{`<a><![CDATA[x]]]></a>`, `^1n.l!******......l:dz`},
		{`<?xml a?b?><a/>`, `^1***_.....^<n*z`},
		{`<a><b/>x<c>y</c></a>`, `^1n.ln*..ln..l:d.l:dz`},
		{" \t<a/>\r\n", `^^^<n*zzz`},
	} {
		if len(c.classes) != len(c.s)+1 {
			t.Fatalf("%q has %d classes", c.s, len(c.classes))
		}
		for k := range len(c.classes) {
			class, cut := c.classes[k], c.s[:k]
			want := api.ErrShort
			switch class {
			case 'z':
				want = api.OK
			case 'm':
				want = api.ErrMatch
			}
			if _, e := xml.Parse(cut); e != want {
				t.Errorf("Parse(%q) tells %d, want %d", cut, e, want)
			}
			for _, b := range append(ascii(), "é") {
				goes := strings.Contains(places[class], b)
				switch {
				case class == '*':
					goes = b == c.s[k:k+1]
				case b == "é":
					goes = strings.IndexByte(".vm", class) >= 0
				}
				if _, e := xml.Parse(cut + b); goes == (e == api.ErrForm) {
					t.Errorf("Parse(%q) tells %d, behind %q", cut+b, e, cut)
				}
				if !goes {
					fails(t, cut+b+c.s[k:], api.ErrForm)
				}
				likeModel(t, cut+b)
				likeModel(t, cut+b+c.s[k:])
			}
		}
	}
}

// TestParseNames (P9.1): names of 64 and 65 bytes, wherever one stands, and at which byte they are too long.
func TestParseNames(t *testing.T) {
	short := "_" + strings.Repeat("a.-9", 16)[:63]
	long := short + "b"
	of := func(space string) api.Attr { return api.Attr{Space: space, Name: short, Value: "1"} }
	for s, want := range map[string]api.Elem{
		`<~/>`:                       el("", short),
		`<~></~>`:                    el("", short),
		`<~:~ xmlns:~="u"/>`:         el("u", short),
		`<~:~ xmlns:~="u"></~:~ >`:   el("u", short),
		`<p:~ xmlns:p="u"></p:~>`:    el("u", short),
		`<~:a xmlns:~="u"></~:a>`:    el("u", "a"),
		`<a ~="1"/>`:                 el("", "a", of("")),
		`<a xmlns:~="u" ~:~ = "1"/>`: el("", "a", of("u")),
	} {
		check(t, strings.ReplaceAll(s, "~", short), want, api.OK)
		for k := range len(s) {
			if s[k] == '~' {
				wrong := strings.ReplaceAll(s[:k], "~", short) + long
				fails(t, wrong, api.ErrLong)
				fails(t, wrong+strings.ReplaceAll(s[k+1:], "~", short), api.ErrLong)
				fails(t, wrong+"=\"<&", api.ErrLong)
				if !strings.Contains(s[:k], "</") {
					fails(t, wrong[:len(wrong)-1]+"&", api.ErrForm)
				}
			}
		}
	}
	for _, s := range []string{`<~`, `<~:a`, `<p:~`, `<~:~`, `<a ~`, `<a p:~`, `<a ~:b`, `<a xmlns:~`, `<a b="1" b="2" ~`, `<a p:b="" ~`, `<a></~`, `<a></~:a`, `<a></p:~`, `<!----><~`, decl + `<~`, `<a><~`} {
		k := strings.Index(s, "~")
		e := api.ErrShort
		if strings.Contains(s, "/") {
			e = api.ErrMatch
		}
		fails(t, s[:k]+short, e)
		fails(t, s[:k]+long, api.ErrLong)
		fails(t, strings.Replace(s, "~", long, 1)+"<", api.ErrLong)
		fails(t, s[:k]+strings.Repeat("a", 8192-k), api.ErrLong)
	}
	fails(t, "<1"+long, api.ErrForm)
	fails(t, "<a></"+short+">", api.ErrMatch)
	fails(t, "<"+short+"></"+short[:63]+">", api.ErrMatch)
	check(t, "<a>"+long+"<!--"+long+"--><![CDATA["+long+"]]></a>", el("", "a", long+long), api.OK)
	fails(t, "<a>&"+long+";</a>", api.ErrForm)
}

// TestParseNameBytes (P9.1): each byte as a name's first and as another one, in all kinds of names.
func TestParseNameBytes(t *testing.T) {
	for b := 1; b < 128; b++ {
		one := string(rune(b))
		for _, name := range []string{one, one + "x", "x" + one, "x" + one + "x"} {
			isName := strings.Contains(nexts, one) && (name[0] == 'x' || strings.Contains(letters, one))
			for s, want := range map[string]api.Elem{
				"<~/>":                     el("", name),
				"<~></~>":                  el("", name),
				"<~:a xmlns:~='u'></~:a>":  el("u", "a"),
				"<p:~ xmlns:p='u'></p:~>":  el("u", name),
				"<a ~='1'></a>":            el("", "a", at(name, "1")),
				"<a ~:b='1' xmlns:~='u'/>": el("", "a", api.Attr{Space: "u", Name: "b", Value: "1"}),
				"<a xmlns:p='u' p:~='1'/>": el("", "a", api.Attr{Space: "u", Name: name, Value: "1"}),
			} {
				s = strings.ReplaceAll(s, "~", name)
				if isName {
					check(t, s, want, api.OK)
				}
				likeModel(t, s)
			}
		}
	}
	for _, s := range []string{"<:a/>", "<a:/>", "<a::b/>", "<a:b:c/>", "<a :b=''/>", "<a b:=''/>", "<a xmlns:=''/>", "<a xmlns:p:q='u'/>", "<a></:a>", "<a></a:>", "<:/>", "<a:1 xmlns:a=''/>", "<a:-b/>", "<a b:.c=''/>"} {
		fails(t, s, api.ErrForm)
	}
}

// nested is so many elements in one another, the last one open, and the same with their ends.
func nested(n int) (string, string) {
	begin := strings.Repeat("<a>", n)
	return begin, begin + strings.Repeat("</a>", n)
}

// TestParseDeep (P9.1): elements 12 and 13 deep, and at which byte that is told.
func TestParseDeep(t *testing.T) {
	want := el("", "a")
	for n := 1; n <= 12; n++ {
		_, s := nested(n)
		check(t, s, want, api.OK)
		want = el("", "a", want)
	}
	for _, n := range []int{13, 14, 100, 399, 400, 401, 1000} {
		_, s := nested(n)
		fails(t, s, api.ErrDeep)
	}
	begin, _ := nested(12)
	for s, e := range map[string]api.Errno{
		"":                                   api.ErrShort,
		"<":                                  api.ErrShort,
		"<b":                                 api.ErrDeep,
		"<_":                                 api.ErrDeep,
		"<b/>":                               api.ErrDeep,
		"<p:b/>":                             api.ErrDeep,
		"<p":                                 api.ErrDeep,
		"<p::":                               api.ErrDeep,
		"<b=":                                api.ErrDeep,
		"<" + strings.Repeat("b", 65):        api.ErrDeep,
		"<b c='' c=''/>":                     api.ErrDeep,
		"x<!-- <b> --><![CDATA[<b>]]>&lt;<b": api.ErrDeep,
		"<1":                                 api.ErrForm,
		"<:":                                 api.ErrForm,
		"< b":                                api.ErrForm,
		"<<b":                                api.ErrForm,
		"<!b":                                api.ErrForm,
		"&b;<b":                              api.ErrForm,
		"</b><b":                             api.ErrMatch,
		"</a><b":                             api.ErrShort,
		"</a><b><c":                          api.ErrDeep,
		"</a><b/><c":                         api.ErrShort,
		"</a><b/><c><d":                      api.ErrDeep,
		"</a><p:b><c":                        api.ErrName,
		"</a></a><b/><b><b/><b><b":           api.ErrDeep,
	} {
		fails(t, begin+s, e)
		likeModel(t, begin+s)
	}
	check(t, begin+"x<!-- <b> --><![CDATA[<b>]]>&lt;"+strings.Repeat("</a>", 12), deepText("x<b><"), api.OK)
	fails(t, strings.Repeat("<a>", 11)+"<a b='' b=''><a>", api.ErrTwice)
	fails(t, strings.Repeat("<a>", 11)+"<a xmlns:b=''><a>", api.ErrName)
}

// deepText is 12 elements in one another, the last one with a text.
func deepText(s string) api.Elem {
	e := el("", "a", s)
	for range 11 {
		e = el("", "a", e)
	}
	return e
}

// TestParseMany (P9.1): 400 elements and 401, and at which byte that is told.
func TestParseMany(t *testing.T) {
	begin := "<a>" + strings.Repeat("<b/>", 200) + strings.Repeat("<c></c>", 199)
	e, f := xml.Parse(begin + "</a>")
	if f != api.OK || len(e.Kids) != 399 {
		t.Errorf("Parse of 400 elements tells %d kids, %d", len(e.Kids), f)
	}
	deep := strings.Repeat("<a>", 11) + strings.Repeat("<b/>", 388)
	for _, c := range []struct {
		s string
		e api.Errno
	}{
		{begin, api.ErrShort},
		{begin + "<", api.ErrShort},
		{begin + "<b", api.ErrMany},
		{begin + "<b/></a>", api.ErrMany},
		{begin + "<p:b/>", api.ErrMany},
		{begin + "<b=", api.ErrMany},
		{begin + "<" + strings.Repeat("b", 65), api.ErrMany},
		{begin + "<1", api.ErrForm},
		{begin + "<!b", api.ErrForm},
		{begin + "&b", api.ErrForm},
		{begin + "x<!-- <b> --><![CDATA[<b>]]>&lt;<b", api.ErrMany},
		{begin + "</b><b", api.ErrMatch},
		{begin + "</a><b", api.ErrForm},
		{begin + "</a><", api.ErrShort},
		{begin + "</a><!-- <b> -->", api.OK},
		{deep + "<b>", api.ErrShort},
		{deep + "<b><c", api.ErrDeep}, // both, at the same byte
		{deep + "<b><", api.ErrShort},
		{deep + "<b/><c", api.ErrMany},
		{deep + "<b></b><c", api.ErrMany},
		{deep + "<b></b><c><d", api.ErrMany},
		{deep + "<b/>" + strings.Repeat("</a>", 11), api.OK},
		{deep + "<b/>" + strings.Repeat("</a>", 10) + "<c", api.ErrMany},
		{"<a>" + strings.Repeat("<b/>", 398) + "<p:b/><c/>", api.ErrName},
		{"<a>" + strings.Repeat("<b/>", 398) + "<b b='' b=''/><c/>", api.ErrTwice},
		{"<a>" + strings.Repeat("<b/>", 398) + "<b></c><c/>", api.ErrMatch},
		{"<a>" + strings.Repeat("<b/>", 2000) + "</a>", api.ErrMany},
	} {
		if _, e := xml.Parse(c.s); e != c.e {
			t.Errorf("Parse(.. %q) tells %d, want %d", c.s[max(0, len(c.s)-60):], e, c.e)
		}
		likeModel(t, c.s)
	}
}

// TestParseTwice (P9.1): attributes twice by their qualified names, and by their space and name.
func TestParseTwice(t *testing.T) {
	for s, e := range map[string]api.Errno{
		`b="1" b="2"`:                                api.ErrTwice,
		`b="1" b="1"`:                                api.ErrTwice,
		`b="" c="" b=''`:                             api.ErrTwice,
		`c="" b="" d="" b=""`:                        api.ErrTwice,
		`xmlns="u" xmlns="u"`:                        api.ErrTwice,
		`xmlns="u" xmlns=""`:                         api.ErrTwice,
		`xmlns:p="u" xmlns:p="v"`:                    api.ErrTwice,
		`xmlns:p="u" p:b="" p:b=""`:                  api.ErrTwice,
		`xml:b="" xml:b=""`:                          api.ErrTwice,
		`xmlns:p="u" xmlns:q="u" p:b="" q:b=""`:      api.ErrTwice,
		`p:b="" xmlns:p="u" q:b="" xmlns:q="u"`:      api.ErrTwice,
		`xmlns:p="u" xmlns:q="&#117;" p:b="" q:b=""`: api.ErrTwice,
		`o:b="" xmlns:p="o" p:b=""`:                  api.ErrTwice,
		`xmlns:p="` + lang + `" p:b="" xml:b=""`:     api.ErrTwice,
		`b="" B=""`:                                  api.OK,
		`b="" bb=""`:                                 api.OK,
		`xmlns:p="u" b="" p:b=""`:                    api.OK,
		`xmlns="u" xmlns:p="u" b="" p:b=""`:          api.OK,
		`xmlns:p="u" xmlns:q="v" p:b="" q:b=""`:      api.OK,
		`xmlns:p="u" xmlns:q="u" p:b="" q:c=""`:      api.OK,
		`xmlns:p="u" xmlns:q="U" p:b="" q:b=""`:      api.OK,
		`xmlns:p="u" xmlns:q="u " p:b="" q:b=""`:     api.OK,
		`xmlns:o="v" xmlns:p="o" p:b="" o:b=""`:      api.OK,
		`xmlns:p="u" p:xmlns="" p:p="" p="" xml=""`:  api.OK,
		`xmlns="u" xmlns:xm="u" xm:lns="" lns=""`:    api.OK,
	} {
		for _, s := range []string{`<a ` + s + `/>`, `<a ` + s + `></a>`, `<a><b ` + s + `/></a>`} {
			s = `<x xmlns:o="o" b="" c="">` + s + `</x>`
			if _, f := xml.Parse(s); f != e {
				t.Errorf("Parse(%q) tells %d, want %d", s, f, e)
			}
			likeModel(t, s)
		}
	}
	many := "<a"
	for n := range 900 {
		many += fmt.Sprintf(" a%d=''", n)
	}
	if e, f := xml.Parse(many + "/>"); f != api.OK || len(e.Attrs) != 900 {
		t.Errorf("Parse of 900 attributes tells %d, %d", len(e.Attrs), f)
	}
	fails(t, many+" a0=''/>", api.ErrTwice)
	fails(t, many+" a899=''/>", api.ErrTwice)
}

// TestParsePrefixes (P9.1): prefixes without a space, those that may not be one, and the space "" of one.
func TestParsePrefixes(t *testing.T) {
	for _, s := range []string{
		`<p:a/>`, `<p:a></p:a>`, `<a p:b=""/>`, `<a b="" p:b=""/>`, `<p:a xmlns="u"/>`, `<a xmlns="u" p:b=""/>`, `<p:a xmlns:q="u"/>`, `<P:a xmlns:p="u"/>`,
		`<a><p:b/></a>`, `<a><b xmlns:p="u"/><p:c/></a>`, `<a><b xmlns:p="u"></b><p:c/></a>`, `<a><b xmlns:p="u"><c/></b><c p:d=""/></a>`,
		`<a xmlns:p=""/>`, `<a xmlns:p=''></a>`, `<p:a xmlns:p=""/>`, `<a xmlns:p="u"><b xmlns:p=""/></a>`, `<a xmlns="u" xmlns:p=""/>`,
		`<a xmlns:xml="u"/>`, `<a xmlns:xml=""/>`, `<a xmlns:xml="` + lang + `"/>`, `<xml:a xmlns:xml="` + lang + `"/>`,
		`<a xmlns:xmlns="u"/>`, `<a xmlns:xmlns=""/>`, `<a xmlns:xmlns="http://www.w3.org/2000/xmlns/"/>`,
		`<xmlns:a/>`, `<xmlns:a></xmlns:a>`, `<xmlns:a xmlns:a="u"/>`, `<xmlns:a xmlns:xmlns="u"/>`, `<xmlns:xmlns/>`,
		`<xmlns:a xmlns="u"/>`, `<XML:a/>`, `<Xmlns:a/>`, `<a Xml:b=""/>`,
	} {
		fails(t, s, api.ErrName)
		fails(t, strings.TrimSuffix(s, "</a>")+"<!", api.ErrName)
		likeModel(t, s)
	}
	for s, want := range map[string]api.Elem{
		`<XML:a xmlns:XML="u"/>`:                         el("u", "a"),
		`<XMLNS:a xmlns:XMLNS="u"/>`:                     el("u", "a"),
		`<a XMLNS="u" xmlnsp="v" xml="w"/>`:              el("", "a", at("XMLNS", "u"), at("xmlnsp", "v"), at("xml", "w")),
		`<xmlns.a/>`:                                     el("", "xmlns.a"),
		`<p:a xmlns:p=" "/>`:                             el(" ", "a"),
		`<p:a xmlns:p="&#32;"/>`:                         el(" ", "a"),
		`<p:a xmlns:p="` + lang + `"/>`:                  el(lang, "a"),
		`<a xmlns="` + lang + `"/>`:                      el(lang, "a"),
		`<p:a xmlns:p="http://www.w3.org/2000/xmlns/"/>`: el("http://www.w3.org/2000/xmlns/", "a"),
		`<a xmlns="http://www.w3.org/2000/xmlns/"/>`:     el("http://www.w3.org/2000/xmlns/", "a"),
	} {
		check(t, s, want, api.OK)
	}
}

// TestParseSpaces (P9.1): up to where a space holds, said again further in, and let go of by "".
func TestParseSpaces(t *testing.T) {
	b := func(space string) api.Attr { return api.Attr{Space: space, Name: "b", Value: ""} }
	for s, want := range map[string]api.Elem{
		`<a xmlns="u"><b/></a>`:                                              el("u", "a", el("u", "b")),
		`<a xmlns="u" b=""><b b=""/></a>`:                                    el("u", "a", at("b", ""), el("u", "b", at("b", ""))),
		`<a xmlns="u"><b xmlns="v"><c/></b><d/></a>`:                         el("u", "a", el("v", "b", el("v", "c")), el("u", "d")),
		`<a xmlns="u"><b xmlns="v"/><d/></a>`:                                el("u", "a", el("v", "b"), el("u", "d")),
		`<a xmlns="u"><b xmlns=""><c/></b><d/></a>`:                          el("u", "a", el("", "b", el("", "c")), el("u", "d")),
		`<a xmlns="u"><b xmlns=""><c xmlns="u"/></b></a>`:                    el("u", "a", el("", "b", el("u", "c"))),
		`<a><b xmlns="u"/><c/></a>`:                                          el("", "a", el("u", "b"), el("", "c")),
		`<a xmlns=""><b/></a>`:                                               el("", "a", el("", "b")),
		`<p:a xmlns:p="u"><b/><p:c/></p:a>`:                                  el("u", "a", el("", "b"), el("u", "c")),
		`<p:a xmlns:p="u"><p:b xmlns:p="v"><p:c/></p:b><p:d/></p:a>`:         el("u", "a", el("v", "b", el("v", "c")), el("u", "d")),
		`<p:a xmlns:p="u"><b xmlns:p="v" p:b=""/><c p:b=""/></p:a>`:          el("u", "a", el("", "b", b("v")), el("", "c", b("u"))),
		`<p:a xmlns:p="u" xmlns="v"><b p:b=""/></p:a>`:                       el("u", "a", el("v", "b", b("u"))),
		`<a xmlns:p="u" xmlns:q="v"><p:b xmlns:q="w"><q:c/></p:b><q:d/></a>`: el("", "a", el("u", "b", el("w", "c")), el("v", "d")),
		`<a xmlns:p="u"><b xmlns:q="v"><p:c/><q:c/></b></a>`:                 el("", "a", el("", "b", el("u", "c"), el("v", "c"))),
		`<a><b><c xmlns="u" xmlns:p="v"><d/></c><d/></b></a>`:                el("", "a", el("", "b", el("u", "c", el("u", "d")), el("", "d"))),
		`<p:a b="" p:b="" xmlns:p="u" xmlns="v"/>`:                           el("u", "a", at("b", ""), b("u")),
		`<xml:a xmlns="u"><xml:b xml:b=""/></xml:a>`:                         el(lang, "a", el(lang, "b", b(lang))),
		`<a xmlns="&amp;&#x3c;é"/>`:                                          el("&<é", "a"),
		`<p:a xmlns:p='"'/>`:                                                 el(`"`, "a"),
		`<p:a xmlns:p="u" xmlns:q="u"><q:b/></p:a>`:                          el("u", "a", el("u", "b")),
		`<a xmlns="u"><b xmlns="u"/></a>`:                                    el("u", "a", el("u", "b")),
	} {
		check(t, s, want, api.OK)
		likeModel(t, s)
	}
	fails(t, `<p:a xmlns:p="u" xmlns:q="u"></q:a>`, api.ErrMatch) // the same space, another qualified name
	fails(t, `<a xmlns="u" xmlns:p="u"></p:a>`, api.ErrMatch)
	fails(t, `<p:a xmlns="u" xmlns:p="u"></a>`, api.ErrMatch)
	fails(t, `<a></A>`, api.ErrMatch)
	fails(t, `<ab></a>`, api.ErrMatch)
	fails(t, `<a></ab>`, api.ErrMatch)
	fails(t, `<a><b></a></b>`, api.ErrMatch)
}

// TestParseOrder (P9.1): what is told behind attributes, where several errors hold, and against what is wrong at the same place and behind it.
func TestParseOrder(t *testing.T) {
	faults := []string{` b="1" b="2"`, ` xmlns:q=""`, ` xmlns:xml="u"`, ` xmlns:xmlns="u"`, ` r:c="1"`, ` xmlns:s="u" xmlns:t="u" s:d="" t:d=""`}
	errs := []api.Errno{api.ErrTwice, api.ErrName, api.ErrName, api.ErrName, api.ErrName, api.ErrTwice}
	for set := range 1 << len(faults) {
		there, back, e := "", "", api.OK
		for k, one := range faults {
			if set>>k&1 == 1 {
				there, back = there+one, one+back
				if e == api.OK {
					e = errs[k]
				}
			}
		}
		for _, name := range []string{"a", "p:a", "xmlns:a"} {
			f := e
			if name != "a" && set&1 == 0 {
				f = api.ErrName // ahead of attributes of one space and name
			}
			for _, attrs := range []string{there, back} {
				begin := "<" + name + attrs
				fails(t, begin, api.ErrShort)
				fails(t, begin+" ", api.ErrShort)
				fails(t, begin+"/", api.ErrShort)
				fails(t, begin+"=", api.ErrForm)
				fails(t, begin+"/ >", api.ErrForm)
				fails(t, begin+" z=<", api.ErrForm)
				fails(t, begin+" "+strings.Repeat("z", 65), api.ErrLong)
				for _, behind := range []string{"></c>", "></" + name, ">", "><", "><1", ">&;", "/>x", "/><", "></p:", "></"} {
					g := f
					switch {
					case f != api.OK:
					case behind == "></c>":
						g = api.ErrMatch
					case strings.HasSuffix(behind, "1"), strings.HasSuffix(behind, ";"), strings.HasSuffix(behind, "x"):
						g = api.ErrForm
					default:
						g = api.ErrShort
					}
					fails(t, begin+behind, g)
					likeModel(t, begin+behind)
				}
			}
		}
	}
}

// TestParseMatch (P9.1): ErrMatch comes behind the qualified name of an end, ahead of what is wrong there, and behind what is wrong in it.
func TestParseMatch(t *testing.T) {
	for s, e := range map[string]api.Errno{
		`<a></b>`:                           api.ErrMatch,
		`<a></b >`:                          api.ErrMatch,
		`<a></b`:                            api.ErrMatch,
		`<a></b `:                           api.ErrMatch,
		`<a></b=`:                           api.ErrMatch,
		`<a></b/>`:                          api.ErrMatch,
		`<a></b<`:                           api.ErrMatch,
		`<a></ab`:                           api.ErrMatch,
		`<ab></a`:                           api.ErrMatch,
		`<ab></a=`:                          api.ErrMatch,
		`<a></p:a>`:                         api.ErrMatch,
		`<a></p:a`:                          api.ErrMatch,
		`<a></p:a:`:                         api.ErrMatch,
		`<a></p:`:                           api.ErrShort,
		`<a></p:1`:                          api.ErrForm,
		`<a></p: a>`:                        api.ErrForm,
		`<a></a:`:                           api.ErrShort,
		`<a></a:>`:                          api.ErrForm,
		`<a></`:                             api.ErrShort,
		`<a></>`:                            api.ErrForm,
		`<a></ a>`:                          api.ErrForm,
		`<a></1`:                            api.ErrForm,
		`<a></a`:                            api.ErrShort,
		`<a></a b=""`:                       api.ErrForm,
		`<a></a/>`:                          api.ErrForm,
		`<a></a=`:                           api.ErrForm,
		`<a></` + strings.Repeat("b", 65):   api.ErrLong,
		`<a></` + strings.Repeat("b", 64):   api.ErrMatch,
		`<a></p:` + strings.Repeat("b", 65): api.ErrLong,
		`<xml:a></xml:b>`:                   api.ErrMatch,
		`<xml:a></xml`:                      api.ErrMatch,
		`<xml:a></xml:`:                     api.ErrShort,
		`<xml:a></a>`:                       api.ErrMatch,
		`<xml:a></xml:a:`:                   api.ErrForm,
		`<a><b></a>`:                        api.ErrMatch,
		`<a><b/></b>`:                       api.ErrMatch,
		`<a><b></b></c>`:                    api.ErrMatch,
		`<a><p:b></a>`:                      api.ErrName,
		`<a><b c="" c=""></a>`:              api.ErrTwice,
	} {
		fails(t, s, e)
		likeModel(t, s)
	}
}

// TestParseRoot (P9.1): just one element, blanks and comments around it, and nothing else.
func TestParseRoot(t *testing.T) {
	for s, e := range map[string]api.Errno{
		"":                      api.ErrShort,
		" \n":                   api.ErrShort,
		"<!-- x -->":            api.ErrShort,
		decl:                    api.ErrShort,
		"<":                     api.ErrShort,
		"<!":                    api.ErrShort,
		"<!-":                   api.ErrShort,
		"x":                     api.ErrForm,
		"x<a/>":                 api.ErrForm,
		">":                     api.ErrForm,
		"&lt;":                  api.ErrForm,
		"&#32;<a/>":             api.ErrForm,
		"</a>":                  api.ErrForm,
		"<>":                    api.ErrForm,
		"<//>":                  api.ErrForm,
		"<![CDATA[x]]><a/>":     api.ErrForm,
		"<![CDATA[ ]]><a/>":     api.ErrForm,
		"<!DOCTYPE a><a/>":      api.ErrForm,
		"<?x y?><a/>":           api.ErrForm,
		"<a/>x":                 api.ErrForm,
		"<a/>\n x":              api.ErrForm,
		"<a/>&#32;":             api.ErrForm,
		"<a/><b/>":              api.ErrForm,
		"<a/><a/>":              api.ErrForm,
		"<a/></a>":              api.ErrForm,
		"<a/><1":                api.ErrForm,
		"<a/><?":                api.ErrForm,
		"<a/><![CDATA[x]]>":     api.ErrForm,
		"<a/><!D":               api.ErrForm,
		"<a></a></a>":           api.ErrForm,
		"<a/><":                 api.ErrShort,
		"<a/><!":                api.ErrShort,
		"<a/><!-":               api.ErrShort,
		"<a/><!--":              api.ErrShort,
		"<a/><!-- --":           api.ErrShort,
		"<a/ >":                 api.ErrForm,
		"<a/":                   api.ErrShort,
		"<a//>":                 api.ErrForm,
		"< a/>":                 api.ErrForm,
		"<a b>":                 api.ErrForm,
		"<a b/>":                api.ErrForm,
		"<a b=1/>":              api.ErrForm,
		"<a b=\"1\"c=\"2\"/>":   api.ErrForm,
		"<a b='1'c='2'/>":       api.ErrForm,
		"<a b=\"1'/>":           api.ErrShort,
		"<a b='1\"/>":           api.ErrShort,
		"<a b='<'/>":            api.ErrForm,
		"<a b=\"<\"/>":          api.ErrForm,
		"<a b='1':c='1'/>":      api.ErrForm,
		"<a =''/>":              api.ErrForm,
		"<a b==''/>":            api.ErrForm,
		"<a b=''=''/>":          api.ErrForm,
		"<a 'b'/>":              api.ErrForm,
		"<a &lt;=''/>":          api.ErrForm,
		"<a b=&quot;1&quot;/>":  api.ErrForm,
		"<a <!-- x -->/>":       api.ErrForm,
		"<a><b</b></a>":         api.ErrForm,
		"<a>< /a>":              api.ErrForm,
		"<a><!DOCTYPE x></a>":   api.ErrForm,
		"<a><?xml x?></a>":      api.ErrForm,
		"<a><?x?></a>":          api.ErrForm,
		"<a><![cdata[x]]></a>":  api.ErrForm,
		"<a><! [CDATA[x]]></a>": api.ErrForm,
		"<a><![CDATA [x]]></a>": api.ErrForm,
		"\ufeff<a/>":            api.ErrForm,
	} {
		fails(t, s, e)
		likeModel(t, s)
	}
}

// inTextOf and inValueOf are an element whose text, and whose attributes' values, are written so.
func inTextOf(s string) string  { return "<a>" + s + "</a>" }
func inValueOf(s string) string { return "<a b=\"" + s + "\" c='" + s + "'/>" }

// means is check of what a text means, as a text and as a value; fails of both, if it means nothing.
func means(t *testing.T, s, want string, e api.Errno) {
	t.Helper()
	if e != api.OK {
		fails(t, inTextOf(s), e)
		fails(t, inValueOf(s), e)
		return
	}
	check(t, inTextOf(s), el("", "a", want), api.OK)
	check(t, inValueOf(s), el("", "a", at("b", want), at("c", want)), api.OK)
}

// TestParseReferences (P9.1): known ones, by name and by number, and what is none.
func TestParseReferences(t *testing.T) {
	for s, want := range map[string]string{
		"&lt;&gt;&amp;&quot;&apos;": `<>&"'`,
		"x&lt;y":                    "x<y",
		"&amp;lt;":                  "&lt;", // once, not again
		"&#38;lt;":                  "&lt;",
		"&#x26;#65;":                "&#65;",
		"&lt;/a&gt;":                "</a>",
		"&#60;!--":                  "<!--",
		"&#65;&#x41;&#x0041;":       "AAA",
		"&#1;":                      "\x01",
		"&#x1;":                     "\x01",
		"&#0000001;":                "\x01",
		"&#x000001;":                "\x01",
		"&#127;&#128;":              "\u007f\u0080",
		"&#x7ff;&#x800;":            "\u07ff\u0800",
		"&#55295;":                  "\ud7ff",
		"&#xd7ff;":                  "\ud7ff",
		"&#xD7Ff;":                  "\ud7ff",
		"&#57344;":                  "\ue000",
		"&#xe000;":                  "\ue000",
		"&#xffff;&#65536;":          "\uffff\U00010000",
		"&#1114111;":                "\U0010ffff",
		"&#x10ffff;":                "\U0010ffff",
		"&#x10FFFF;":                "\U0010ffff",
		"&#xaAbB;":                  "\uaabb",
		"&#10;&#13;&#9;&#32;":       "\n\r\t ",
		"&#x9;;":                    "\t;",
		"&lt;lt;":                   "<lt;",
	} {
		means(t, s, want, api.OK)
	}
	for _, s := range []string{
		"&", "& ", "&;", "&&amp;", "& lt;", "&lt ;", "&lt", "&LT;", "&Lt;", "&nbsp;", "&l;", "&ltt;", "&lgt;", "&am;", "&ap;", "&a;", "&ampamp;", "&amp", "&quo;", "&quott;", "&apo;", "&aps;", "&g;", "&q;", "&x;", "&lt&gt;", "&-lt;",
		"&#;", "&#x;", "&# 65;", "&#65 ;", "&#+65;", "&#-65;", "&#6a;", "&#a;", "&#x4g;", "&#xg;", "&#X41;", "&#0x41;", "&#x 41;", "&#x+41;", "&#x-41;", "&#xx41;", "&#x#41;", "&##65;", "&#65", "&#x41", "&#65,", "&#1_0;", "&x41;", "&65;", "&#x4G;", "&#:;", "&#/;", "&#x@;", "&#x`;", "&#x[;",
		"&#0;", "&#x0;", "&#0000000;", "&#x000000;", "&#55296;", "&#xd800;", "&#xDBFF;", "&#xdc00;", "&#57343;", "&#xdfff;", "&#xDFFF;", "&#1114112;", "&#x110000;", "&#9999999;", "&#xffffff;",
		"&#00000065;", "&#11141111;", "&#x0000041;", "&#x10ffff0;", "&#x010ffff;", "&#4294967361;", "&#x100000041;", "&#18446744073709551681;",
	} {
		means(t, s, "", api.ErrForm)
		likeModel(t, inTextOf(s))
	}
}

// TestParseReferencesCut (P9.1): references cut off behind each byte, and at which byte it is told that there is none.
func TestParseReferencesCut(t *testing.T) {
	for _, begin := range []string{"<a>", "<a b=\"", "<a b='x", "<a>x"} {
		for _, s := range []string{"&lt;", "&gt;", "&amp;", "&quot;", "&apos;", "&#1;", "&#65;", "&#1114111;", "&#x1;", "&#x41;", "&#x10ffff;", "&#0000065;", "&#x000041;"} {
			for k := range len(s) + 1 {
				fails(t, begin+s[:k], api.ErrShort)
			}
		}
		for s, right := range map[string]int{ // how many of its bytes may come
			"&lx": 2, "&ltt": 3, "&x": 1, "&L": 1, "&amq": 3, "&ap;": 3, "&apox": 4, "&quotx": 5, "&gx": 2, "&ax": 2, "&<": 1, "&&": 1,
			"&#x;": 3, "&#;": 2, "&#a": 2, "&#X": 2, "&#1a": 3, "&#xg": 3, "&#12345678": 9, "&#x1234567": 9, "&#00000000": 9, "&#x0000000": 9, "&#1 ": 3,
			"&#0;": 3, "&#x0;": 4, "&#55296;": 7, "&#xdfff;": 7, "&#1114112;": 9, "&#x110000;": 9, "&#9999999;": 9, "&#xffffff;": 9, // its form is right
		} {
			for k := range len(s) + 1 {
				e := api.ErrShort
				if k > right {
					e = api.ErrForm
				}
				fails(t, begin+s[:k], e)
				likeModel(t, begin+s[:k])
			}
			fails(t, begin+s+"<!", api.ErrForm)
		}
	}
}

// TestParseNumbers (P9.1): all numbers, in each of the ways in which a reference may write one.
func TestParseNumbers(t *testing.T) {
	var s, want strings.Builder
	for n := 1; n <= 0x10ffff; n++ {
		if n < 0xd800 || n > 0xdfff {
			fmt.Fprintf(&s, "&#%d;&#x%x;&#x%06X;&#%07d;", n, n, n, n)
			want.WriteString(strings.Repeat(string(rune(n)), 4))
		}
		if s.Len() > 8000 || n == 0x10ffff {
			check(t, inTextOf(s.String()), el("", "a", want.String()), api.OK)
			s.Reset()
			want.Reset()
		}
	}
	for n := 0xd800; n < 0xe000; n++ {
		means(t, fmt.Sprintf("&#%d;", n), "", api.ErrForm)
		means(t, fmt.Sprintf("&#x%X;", n), "", api.ErrForm)
	}
	for n := 0x110000; n <= 0xffffff; n += 997 {
		means(t, fmt.Sprintf("&#x%x;", n), "", api.ErrForm)
		means(t, fmt.Sprintf("&#%d;", min(n, 9999999)), "", api.ErrForm)
	}
}

// TestParseData (P9.1): CDATA and comments, with what looks like their ends, or like something else.
func TestParseData(t *testing.T) {
	for s, want := range map[string]string{
		"<![CDATA[]]>":                            "",
		"<![CDATA[x]]>":                           "x",
		"<![CDATA[ \n]]>":                         " \n",
		"<![CDATA[]]]>":                           "]",
		"<![CDATA[]]]]>":                          "]]",
		"<![CDATA[]>]]>":                          "]>",
		"<![CDATA[]] >]]>":                        "]] >",
		"<![CDATA[>]]>":                           ">",
		"<![CDATA[[]]>":                           "[",
		"<![CDATA[<![CDATA[]]>":                   "<![CDATA[",
		"<![CDATA[<b></a>]]>":                     "<b></a>",
		"<![CDATA[&lt;&x]]>":                      "&lt;&x",
		"<![CDATA[<!-- x -->]]>":                  "<!-- x -->",
		"<![CDATA[-->]]>":                         "-->",
		"<![CDATA[é\U0001f600]]>":                 "é\U0001f600",
		"x<![CDATA[y]]>z":                         "xyz",
		"<![CDATA[x]]><![CDATA[y]]>":              "xy",
		"<![CDATA[]]><![CDATA[]]>x":               "x",
		"<![CDATA[x]]>]]>":                        "x]]>",
		"<![CDATA[]]]]><![CDATA[>]]>":             "]]>",
		"&lt;<![CDATA[&lt;]]>&lt;":                "<&lt;<",
		"]]>":                                     "]]>",
		"<!---->":                                 "",
		"<!-- x -->":                              "",
		"<!--->-->":                               "",
		"<!----->":                                "",
		"<!------>":                               "",
		"<!---x--->":                              "",
		"<!-- -- -->":                             "",
		"<!-- -> -- > ->-->":                      "",
		"<!-- <!-- -->":                           "",
		"<!-- <!-- -->-->":                        "-->",
		"<!-- & &lt; <b> </a> ]]> <![CDATA[ -->":  "",
		"x<!---->y<!-- z -->w":                    "xyw",
		"<!-- x --><!-- y -->":                    "",
		"<!--é-->\n<!---->":                       "\n",
		"<!-- --><![CDATA[<!--]]><!-- ]]> -->-->": "<!---->",
		"<![CDATA[x]]><!-- <![CDATA[y]]> --><!---->": "x",
		" <!----> ":       "  ",
		"&#x3c;!-- x -->": "<!-- x -->",
	} {
		check(t, inTextOf(s), el("", "a", want), api.OK)
		check(t, "<x>v"+inTextOf(s)+"w</x>", el("", "x", "vw", el("", "a", want)), api.OK)
		if strings.Contains(s, "<!") {
			fails(t, inValueOf(s), api.ErrForm)
		}
		if strings.HasPrefix(s, "<!--") && want == "" {
			check(t, s+"<a/>"+s, el("", "a"), api.OK)
		}
		likeModel(t, inTextOf(s))
		likeModel(t, s+"<a/>"+s)
	}
	for _, s := range []string{"<!-->", "<!--->", "<!-- --", "<!-- -- >", "<!-- ->", "<!--", "<!-", "<!", "<![CDATA[", "<![CDATA[]", "<![CDATA[]]", "<![CDATA[]>", "<![CDATA[]] >", "<![CDATA[ ] ]>", "<![CDATA", "<!["} {
		fails(t, "<a>"+s, api.ErrShort)
		likeModel(t, inTextOf(s))
		if !strings.Contains(s, "[") {
			fails(t, s, api.ErrShort)
			fails(t, "<a/>"+s, api.ErrShort)
		}
	}
	for _, s := range []string{"<!->", "<!- - x -->", "<!x-->", "<!>", "<! -- x -->", "<![cDATA[]]>", "<![CDATA]]>", "<![]]>", "<![CDATA (x)]]>", "<!]]>"} {
		fails(t, inTextOf(s), api.ErrForm)
		fails(t, s+"<a/>", api.ErrForm)
		fails(t, "<a/>"+s, api.ErrForm)
	}
}

// TestParseHead (P9.1): <?xml right at the beginning, once, with a blank behind it.
func TestParseHead(t *testing.T) {
	for _, s := range []string{
		decl, "<?xml ?>", "<?xml\t?>", "<?xml\n?>", "<?xml\r?>", "<?xml  ?>", "<?xml ??>", "<?xml >?>", "<?xml ? >?>", "<?xml x?>", "<?xml <a></b> & <!-- ?>", "<?xml <?xml ?>", "<?xml é?>", "<?xml version='2.0' x?>",
	} {
		for _, behind := range []string{"<a/>", " <a/>", "\n<!-- x -->\n<a/>\n", "<a/><!-- ?> -->"} {
			check(t, s+behind, el("", "a"), api.OK)
			fails(t, " "+s+behind, api.ErrForm)
			fails(t, "\n"+s+behind, api.ErrForm)
			fails(t, "<!---->"+s+behind, api.ErrForm)
			fails(t, "\ufeff"+s+behind, api.ErrForm)
			fails(t, s+s+behind, api.ErrForm)
			fails(t, s+" "+s+behind, api.ErrForm)
			fails(t, behind+s, api.ErrForm)
			fails(t, s+"?>"+behind, api.ErrForm)
			fails(t, "x"+s+behind, api.ErrForm)
		}
		for k := range s {
			fails(t, s[:k], api.ErrShort)
		}
		fails(t, s, api.ErrShort)
		fails(t, "<a>"+s+"</a>", api.ErrForm)
	}
	for _, s := range []string{"<?xml?>", "<?xmlx?>", "<?xml-stylesheet ?>", "<?xml:a ?>", "<?xml\v?>", "<?xml\f?>", "<?XML ?>", "<?Xml ?>", "<? xml ?>", "<?x ?>", "<?xm ?>", "<??>", "<?>", "<?php ?>", "<?xml\u00a0?>", "<?xml\x00 ?>"} {
		fails(t, s+"<a/>", api.ErrForm)
	}
	for _, s := range []string{"<?xml >", "<?xml ?", "<?xml ? >", "<?xml ?<a/>", "<?xml <a/>"} {
		fails(t, s, api.ErrShort)
	}
}

// TestParseBlanks (P9.1): blanks of each kind at each place: where they may stand, where they are text or in a value, and where they may not be.
func TestParseBlanks(t *testing.T) {
	// ~: they change nothing; ^: they are text, or in a value; %: what comes of them the model knows; elsewhere: ErrForm
	const marked = "~<!--%-%-%>~<p:a~ ~xmlns:p~=~'^u^'~ ~b~=~\"^1^\"~>^x^&lt;^<!--%-%-%>^<c~/>^<c~>^</c~>^<![CDATA[^]%]%>^</p%:a~>~"
	s, marks := "", map[int]byte{}
	for k := range len(marked) {
		if strings.IndexByte("~^%", marked[k]) >= 0 {
			marks[len(s)] = marked[k]
		} else {
			s += marked[k : k+1]
		}
	}
	want := el("u", "a", at("b", "1"), "x<", el("", "c"), el("", "c"))
	check(t, s, want, api.OK)
	filled := strings.NewReplacer("^", "", "%", "")
	for _, blank := range []string{" ", "\t", "\n", "\r", "\r\n", " \t\n\r \n"} {
		for k := range len(s) + 1 {
			with := s[:k] + blank + s[k:]
			got, e := xml.Parse(with)
			switch {
			case marks[k] == '~' && (e != api.OK || !alike(got, want)),
				marks[k] == '^' && (e != api.OK || alike(got, want) || strings.Count(fmt.Sprint(got), blank) <= strings.Count(fmt.Sprint(want), blank)),
				marks[k] == 0 && e != api.ErrForm:
				t.Errorf("Parse(%q) = %q, %d", with, fmt.Sprint(got), e)
			}
			likeModel(t, with)
		}
		check(t, strings.ReplaceAll(filled.Replace(marked), "~", blank), want, api.OK)
	}
	for _, none := range []string{"\v", "\f", "\u00a0", "\u0085", "\u2003", "\x1f", "\x7f"} { // blanks elsewhere
		for k := range len(s) + 1 {
			if _, e := xml.Parse(s[:k] + none + s[k:]); marks[k] != '^' && marks[k] != '%' && e != api.ErrForm {
				t.Errorf("Parse of %q with %q at %d tells %d", s, none, k, e)
			}
		}
	}
}

// TestParseShort (P9.1): all short texts of the pieces that matter in each part of a text, against the model.
func TestParseShort(t *testing.T) {
	for _, c := range []struct {
		begin  string
		n      int
		pieces string // _ is a blank
	}{
		{"", 6, "<a <b /> > </a </b x"},
		{"", 5, "< > / a ! - ? _ <a/>"},
		{"<a", 5, "_ b : = \" ' 1 < > /"},
		{"<a b", 5, "_ \n = \" ' < > / & c"},
		{"<a>", 5, "& # x X 0 1 f g ; lt amp d800"},
		{"<a b='", 5, "& # x 0 9 f ; gt apo 110000 '"},
		{"<a>", 6, "<! - > [ ] CDATA < / a"},
		{"<!", 6, "- > < ! a /> _"},
		{"<", 6, "? xml _ > <a/> <! a"},
		{"<a><", 6, "/ a _ > : b <"},
		{"<p:a ", 4, "xmlns:p='u'_ xmlns:p=''_ xmlns='v'_ xmlns=''_ xmlns:xml='u'_ xmlns:xmlns='u'_ xmlns:q='u'_ p:b=''_ q:b=''_ b=''_ xml:b=''_ > /> <q:c"},
		{"<a xmlns='u' xmlns:p='v'>", 5, "<b/> <p:b/> <b_xmlns=''> <p:b_xmlns:p='w'> <q:b_xmlns:q='v'/> </b> </p:b> </a> x"},
	} {
		for s := range all(c.begin, c.n, strings.Split(c.pieces, " ")...) {
			likeModel(t, strings.ReplaceAll(s, "_", " "))
		}
	}
}

// stock is some texts that have much in them.
var stock = []string{
	decl + "\n<D:propfind xmlns:D=\"DAV:\" xmlns:C='urn:ietf:params:xml:ns:caldav'><D:prop><D:getetag/><C:calendar-data xmlns=\"\"/></D:prop></D:propfind>\n",
	`<!-- x --><p:a xmlns:p="u" b='1' p:c = "&#x41;&lt;">x&amp;y<![CDATA[z]]]><c/><q:d xmlns:q="v" q:e=''></q:d ><!---->w</p:a >`,
	`<a xmlns="u"><b xmlns="" c='"'>&#65;&quot;</b><xml:c xml:d="e"/></a><!-- -->`,
}

// TestParseChanged (P9.1): texts with a byte put in, made another one, or taken away, pieces taken away or doubled, and some of these at once, against the model.
func TestParseChanged(t *testing.T) {
	draw := rand.New(rand.NewPCG(9, 1))
	bytes := append(ascii(), "\x00", "\xff", "é", "\xc3")
	for _, s := range stock {
		for k := range len(s) {
			for _, b := range bytes {
				likeModel(t, s[:k]+b+s[k:])
				likeModel(t, s[:k]+b+s[k+1:])
			}
			for end := k + 1; end <= len(s); end++ {
				likeModel(t, s[:k]+s[end:])
				likeModel(t, s[:end]+s[k:])
			}
			likeModel(t, s[:k])
		}
		for range 20000 {
			changed := s
			for range 2 + draw.IntN(3) {
				changed = changedOnce(draw, changed)
			}
			likeModel(t, changed)
		}
	}
}

// changedOnce is a text with something else at one place.
func changedOnce(draw *rand.Rand, s string) string {
	from := draw.IntN(len(s) + 1)
	to := min(len(s), from+draw.IntN(12))
	other := stock[draw.IntN(len(stock))]
	begin := draw.IntN(len(other))
	switch draw.IntN(4) {
	case 0:
		return s[:from] + s[to:]
	case 1:
		return s[:to] + s[from:]
	case 2:
		return s[:from] + other[begin:min(len(other), begin+draw.IntN(12))] + s[to:]
	}
	return s[:from] + string(rune(1+draw.IntN(127))) + s[to:]
}

// library is what the library reads of a text.
func library(s string) (api.Elem, error) {
	d := stdxml.NewDecoder(strings.NewReader(s))
	open := []api.Elem{{}}
	for {
		token, err := d.Token()
		if errors.Is(err, io.EOF) {
			return open[0].Kids[0], nil
		}
		if err != nil {
			return api.Elem{}, err
		}
		last := len(open) - 1
		switch x := token.(type) {
		case stdxml.StartElement:
			e := el(x.Name.Space, x.Name.Local)
			for _, a := range x.Attr {
				if a.Name.Space != "xmlns" && (a.Name.Space != "" || a.Name.Local != "xmlns") {
					e.Attrs = append(e.Attrs, api.Attr{Space: a.Name.Space, Name: a.Name.Local, Value: a.Value})
				}
			}
			open = append(open, e)
		case stdxml.EndElement:
			open[last-1].Kids = append(open[last-1].Kids, open[last])
			open = open[:last]
		case stdxml.CharData:
			open[last].Text += string(x)
		}
	}
}

// TestParseLibrary (P9.1): texts that the library can read too.
func TestParseLibrary(t *testing.T) {
	d := newDrawer(2)
	d.tame = true
	read := 0
	for range 3000 {
		e := d.elem(true)
		s := d.text(e)
		if len(s) > 8192 {
			continue
		}
		want, err := library(s)
		if err != nil {
			t.Fatalf("the library does not read %q: %v", s, err)
		}
		check(t, s, want, api.OK)
		read++
	}
	for _, s := range stock {
		want, err := library(s)
		if err != nil {
			t.Fatal(err)
		}
		check(t, s, want, api.OK)
	}
	if read < 2000 {
		t.Errorf("only %d texts were short enough", read)
	}
}

// FuzzParse: any text, against the model; what is read, printed and read again is the same.
func FuzzParse(f *testing.F) {
	for _, s := range stock {
		f.Add(s)
	}
	f.Fuzz(func(t *testing.T, s string) {
		likeModel(t, s)
		backAgain(t, s)
	})
}
