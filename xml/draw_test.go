package xml_test

import (
	"fmt"
	"maps"
	"math/rand/v2"
	"slices"
	"strings"
	"unicode/utf8"

	"almanac/api"
)

// drawer draws elements, and texts of elements.
type drawer struct {
	*rand.Rand
	tame bool // only what the library reads as it stands
	left int  // elements that may come
}

func newDrawer(seed uint64) *drawer { return &drawer{Rand: rand.New(rand.NewPCG(9, seed))} }

// rarely is true once in so many times.
func (d *drawer) rarely(n int) bool { return d.IntN(n) == 0 }

func oneOf[T any](d *drawer, l ...T) T { return l[d.IntN(len(l))] }

// name is a name.
func (d *drawer) name() string {
	if d.rarely(3) {
		b := []byte{letters[d.IntN(len(letters))]}
		for range d.IntN(oneOf(d, 3, 3, 64)) {
			b = append(b, nexts[d.IntN(len(nexts))])
		}
		return string(b)
	}
	s := oneOf(d, "a", "b", "c", "prop", "xml", "xmlns", "_", "C-d.9")
	if d.tame && s == "xmlns" {
		return "xmln" // of the library an element xmlns has no space
	}
	return s
}

// space is a space.
func (d *drawer) space() string {
	return oneOf(d, "", "", "DAV:", "DAV:", api.NsCal, "u", "v", " ", `&<>"'`, "é", lang)
}

// words is a text.
func (d *drawer) words() string {
	s := ""
	for range d.IntN(oneOf(d, 1, 4, 10)) {
		one := oneOf(d, "x", " ", "\n", "\t", "&", "<", ">", `"`, "'", "&lt;", "&#65;", "<!--", "-->", "]]", "]", "é", "\u20ac", "\U0010ffff", "\ud7ff", "/>", "a", ";", "\r\n", "\r", "\x01", "\x7f", "]]>", "<![CDATA[", "\ufffe")
		if d.tame && strings.ContainsAny(one, "\r\x01\ufffe") {
			one = "\ufffd"
		}
		s += one
	}
	if d.tame {
		s = strings.ReplaceAll(s, "]]>", "]] >")
	}
	return s
}

// elem is an element that is fit, but for attributes with a space, if there may be such.
func (d *drawer) elem(spaced bool) api.Elem {
	d.left = oneOf(d, 1, 3, 8, 8, 30, 100, 400)
	return d.below(1, oneOf(d, 2, 4, 4, 12), spaced)
}

func (d *drawer) below(deep, most int, spaced bool) api.Elem {
	d.left--
	e := api.Elem{Space: d.space(), Name: d.name(), Text: d.words()}
	names := map[api.Attr]bool{}
	for range d.IntN(oneOf(d, 1, 2, 5)) {
		a := api.Attr{Name: d.name()}
		if spaced && d.rarely(2) {
			a.Space = d.space()
		}
		if names[a] || a.Space == "" && a.Name == "xmlns" {
			continue
		}
		names[a] = true
		a.Value = d.words()
		e.Attrs = append(e.Attrs, a)
	}
	for n := d.IntN(oneOf(d, 2, 4, 40)); n > 0 && d.left > 0 && deep < most; n-- {
		e.Kids = append(e.Kids, d.below(deep+1, most, spaced))
	}
	return e
}

// text is one of the texts that mean an element.
func (d *drawer) text(e api.Elem) string {
	s := ""
	if d.rarely(2) {
		s = oneOf(d, decl, "<?xml version=\"1.0\"\n?>")
	}
	return s + d.around() + d.written(e, map[string]string{"": "", "xml": lang}) + d.around()
}

// around is blanks and comments.
func (d *drawer) around() string {
	s := d.blanks()
	for d.rarely(3) {
		s += d.comment() + d.blanks()
	}
	return s
}

// blanks is blanks, often none.
func (d *drawer) blanks() string { return oneOf(d, "", "", "", "", " ", "\n", "\t", "\r\n  ") }

func (d *drawer) comment() string {
	s := oneOf(d, "", "x", " x ", " <b> </a> & ", " -> ]]> ", "é", "-", "--", "->", "<!--", "\r\x01")
	if d.tame {
		s = strings.Trim(strings.NewReplacer("--", "", "\r", "", "\x01", "").Replace(s), "-")
	}
	return "<!--" + s + "-->"
}

// written is an element where some prefixes mean some spaces.
func (d *drawer) written(e api.Elem, outer map[string]string) string {
	holds, said, used := maps.Clone(outer), map[string]string{}, map[string]bool{}
	name := d.called(e.Space, e.Name, true, holds, said, used)
	var attrs []string
	for _, a := range e.Attrs {
		called := a.Name
		if a.Space != "" {
			called = d.called(a.Space, a.Name, false, holds, said, used)
		}
		attrs = append(attrs, called+d.blanks()+"="+d.blanks()+d.quoted(a.Value))
	}
	for _, prefix := range slices.Sorted(maps.Keys(said)) {
		says := "xmlns:" + prefix
		if prefix == "" {
			says = "xmlns"
		}
		attrs = slices.Insert(attrs, d.IntN(len(attrs)+1), says+d.blanks()+"="+d.blanks()+d.quoted(said[prefix]))
	}
	s := "<" + name
	for _, a := range attrs {
		s += oneOf(d, " ", "\n", "\t", "\r", "  ", " \n ") + a
	}
	s += d.blanks()
	in := d.content(e, holds)
	if in == "" && d.rarely(2) {
		return s + "/>"
	}
	return s + ">" + in + "</" + name + d.blanks() + ">"
}

// called is a name with a prefix that means a space, said here or further out; what a name here relies on isn't said again.
func (d *drawer) called(space, name string, isElem bool, holds, said map[string]string, used map[string]bool) string {
	var prefixes []string
	for _, prefix := range slices.Sorted(maps.Keys(holds)) {
		if holds[prefix] == space && (isElem || prefix != "") {
			prefixes = append(prefixes, prefix)
		}
	}
	for len(prefixes) == 0 || d.rarely(6) {
		prefix := oneOf(d, "", "p", "q", "D", "a", "xm", "_."+strings.Repeat("x", d.IntN(63)))
		_, isSaid := said[prefix]
		if isSaid || used[prefix] || prefix == "" && !isElem || prefix != "" && space == "" {
			continue
		}
		holds[prefix], said[prefix] = space, space
		prefixes = []string{prefix}
		break
	}
	prefix := oneOf(d, prefixes...)
	used[prefix] = true
	if prefix == "" {
		return name
	}
	return prefix + ":" + name
}

// quoted is an attribute's value.
func (d *drawer) quoted(s string) string {
	quote := oneOf(d, `"`, "'")
	return quote + d.coded(s, "<&"+quote) + quote
}

// coded is a text in which references stand for some, and those that may not stand as they are.
func (d *drawer) coded(s, not string) string {
	out := ""
	for _, r := range s {
		one := string(r)
		by := strings.IndexRune(`<>&"'`, r)
		switch {
		case !strings.Contains(not, one) && !d.rarely(8):
			out += one
		case by >= 0 && d.rarely(2):
			out += []string{"&lt;", "&gt;", "&amp;", "&quot;", "&apos;"}[by]
		default:
			out += fmt.Sprintf(oneOf(d, "&#%d;", "&#%07d;", "&#x%x;", "&#x%X;", "&#x%06x;"), r)
		}
	}
	return out
}

// content is an element's text in pieces, with its kids and comments between.
func (d *drawer) content(e api.Elem, holds map[string]string) string {
	s, text, kids := "", e.Text, e.Kids
	for text != "" || len(kids) > 0 {
		switch {
		case d.rarely(8):
			s += d.comment()
		case len(kids) > 0 && (text == "" || d.rarely(2)):
			s += d.written(kids[0], holds)
			kids = kids[1:]
		case text != "":
			piece := text
			if d.rarely(2) {
				piece = piece[:d.IntN(len(piece)+1)]
			}
			for !utf8.ValidString(piece) {
				piece = piece[:len(piece)-1]
			}
			text = text[len(piece):]
			if !strings.Contains(piece, "]]>") && d.rarely(4) {
				s += "<![CDATA[" + piece + "]]>"
			} else {
				s += d.coded(piece, "<&")
			}
		}
	}
	if d.rarely(8) {
		s += oneOf(d, d.comment(), "<![CDATA[]]>")
	}
	return s
}
