package xml

import (
	"maps"
	"strings"
	"unicode/utf8"

	"almanac/api"
)

const (
	beginHead    = "<?xml"
	endHead      = "?>"
	beginComment = "<!--"
	endComment   = "-->"
	beginData    = "<![CDATA["
	endData      = "]]>"

	digits10 = 7 // of a reference by number, at most
	digits16 = 6

	xmlPrefix = "xml"
	xmlSpace  = "http://www.w3.org/XML/1998/namespace"
)

// meaning is a text that stands for another one.
type meaning struct{ written, means string }

// references is those by name, behind their &.
var references = [5]meaning{{"lt;", "<"}, {"gt;", ">"}, {"amp;", "&"}, {"quot;", `"`}, {"apos;", "'"}}

// qualified is a name with its prefix; "" is none.
type qualified struct{ prefix, name string }

// written is an attribute as it stands in a text.
type written struct {
	qualified
	value string
}

// says is the prefix whose space an attribute says; false, if it is one as others are.
func (a written) says() (string, bool) {
	if a.prefix == "" && a.name == xmlns {
		return "", true
	}
	return a.name, a.prefix == xmlns
}

// as is how an attribute is called in a text.
func (a written) as() qualified { return a.qualified }

// space is what a prefix means.
type space struct{ is string }

// spaces is those that hold at a place, by their prefixes: that of elements without one by "".
type spaces struct{ by map[string]space }

// with is the spaces that hold where an element has these attributes too.
func (s spaces) with(l []written) spaces {
	said := map[string]space{}
	for _, a := range l {
		prefix, ok := a.says()
		switch {
		case !ok:
			continue
		case prefix == xmlns || prefix == xmlPrefix || prefix != "" && a.value == "":
			panic(api.ErrName)
		}
		said[prefix] = space{a.value}
	}
	if len(said) == 0 {
		return s
	}
	by := maps.Clone(s.by) // the elements around need theirs again
	maps.Copy(by, said)
	return spaces{by}
}

// of is the space of a prefix; one that has none is given up.
func (s spaces) of(prefix string) string {
	it, ok := s.by[prefix]
	if !ok {
		panic(api.ErrName)
	}
	return it.is
}

// told is the attributes but for those that say spaces.
func (s spaces) told(l []written) []api.Attr {
	var out []api.Attr
	for _, a := range l {
		if _, ok := a.says(); ok {
			continue
		}
		one := api.Attr{Name: a.name, Value: a.value}
		if a.prefix != "" {
			one.Space = s.of(a.prefix)
		}
		out = append(out, one)
	}
	if isTwice(out, fullName) {
		panic(api.ErrTwice)
	}
	return out
}

// reader reads a text from a byte on, in the spaces that hold there; what can't be read it gives up by panic with its error.
type reader struct {
	spaces
	s     string
	at    int
	began int // elements
}

// Parse reads an element.
func Parse(s string) (e api.Elem, err api.Errno) {
	switch {
	case len(s) > api.MaxText:
		return api.Elem{}, api.ErrLong
	case !isText(s):
		return api.Elem{}, api.ErrForm
	}
	defer func() {
		caught := recover()
		if gave, ok := caught.(api.Errno); ok {
			e, err = api.Elem{}, gave
		} else if caught != nil {
			panic(caught) // no reader's giving up
		}
	}()
	r := &reader{spaces: spaces{map[string]space{"": {}, xmlPrefix: {xmlSpace}}}, s: s}
	return r.whole(), api.OK
}

// whole reads a text up to its end.
func (r *reader) whole() api.Elem {
	if r.isAt("<?") {
		r.want(beginHead)
		r.blank()
		r.upTo(endHead)
	}
	for r.blanks(); r.isAt("<!"); r.blanks() {
		r.comment()
	}
	r.want("<")
	e := r.element(0)
	for r.blanks(); r.at < len(r.s); r.blanks() {
		r.comment()
	}
	return e
}

// element reads an element, whose < is read, that stands in so many others.
func (r *reader) element(around int) api.Elem {
	r.begin(around)
	name := r.qualified()
	attrs := r.attributes()
	isEmpty := r.isAt("/")
	if isEmpty {
		r.want("/")
	}
	r.want(">")
	if isTwice(attrs, written.as) {
		panic(api.ErrTwice)
	}
	outer := r.spaces
	r.spaces = r.with(attrs)
	e := api.Elem{Space: r.of(name.prefix), Name: name.name, Attrs: r.told(attrs)}
	if !isEmpty {
		e.Text, e.Kids = r.content(around + 1)
		r.end(name)
	}
	r.spaces = outer
	return e
}

// begin asks whether an element can begin here, in so many others.
func (r *reader) begin(around int) {
	switch {
	case !isFirst(r.now()):
		panic(api.ErrForm)
	case around >= api.MaxDepth:
		panic(api.ErrDeep)
	case r.began >= api.MaxNodes:
		panic(api.ErrMany)
	}
	r.began++
}

// attributes reads those of an element, and the blanks behind them.
func (r *reader) attributes() []written {
	var l []written
	for {
		apart := r.blanks()
		b := r.now()
		switch {
		case b == '>' || b == '/':
			return l
		case !apart:
			panic(api.ErrForm)
		}
		name := r.qualified()
		r.blanks()
		r.want("=")
		r.blanks()
		l = append(l, written{name, r.value()})
	}
}

// value reads an attribute's value.
func (r *reader) value() string {
	b := r.now()
	if b != '"' && b != '\'' {
		panic(api.ErrForm)
	}
	quote := string(rune(b))
	r.want(quote)
	v := r.text(quote + "<")
	r.want(quote)
	return v
}

// content reads what stands in an element: its text, and the elements, which stand in so many others.
func (r *reader) content(around int) (string, []api.Elem) {
	var b strings.Builder
	var kids []api.Elem
	for {
		b.WriteString(r.text("<"))
		switch {
		case r.isAt("</"):
			return b.String(), kids
		case r.isAt("<!["):
			r.want(beginData)
			b.WriteString(r.upTo(endData))
		case r.isAt("<!"):
			r.comment()
		default:
			r.want("<")
			kids = append(kids, r.element(around))
		}
	}
}

// end reads the end of an element of that name.
func (r *reader) end(name qualified) {
	r.want("</")
	if r.qualified() != name {
		panic(api.ErrMatch)
	}
	r.blanks()
	r.want(">")
}

// qualified reads a name that may have a prefix.
func (r *reader) qualified() qualified {
	name := r.name()
	if !r.isAt(":") {
		return qualified{"", name}
	}
	r.want(":")
	return qualified{name, r.name()}
}

// name reads a name.
func (r *reader) name() string {
	if !isFirst(r.now()) {
		panic(api.ErrForm)
	}
	from := r.at
	for r.at < len(r.s) && isNext(r.s[r.at]) {
		if r.at-from == longName {
			panic(api.ErrLong)
		}
		r.at++
	}
	return strings.Clone(r.s[from:r.at]) // a clone, so that a name does not hold the whole text in memory
}

// text reads up to the first of these bytes, each reference as what it means.
func (r *reader) text(ends string) string {
	var b strings.Builder
	for {
		now := r.now()
		switch {
		case strings.IndexByte(ends, now) >= 0:
			return b.String()
		case now == '&':
			b.WriteString(r.reference())
		default:
			b.WriteByte(now)
			r.at++
		}
	}
}

// reference reads a reference, and tells what it means.
func (r *reader) reference() string {
	r.want("&")
	if r.isAt("#") {
		return r.number()
	}
	isShort := false
	for _, one := range references {
		if r.isAt(one.written) {
			r.want(one.written)
			return one.means
		}
		isShort = isShort || r.isCut(one.written)
	}
	if isShort {
		panic(api.ErrShort)
	}
	panic(api.ErrForm)
}

// number reads a reference by number, behind its &.
func (r *reader) number() string {
	r.want("#")
	base, most := 10, digits10
	if r.isAt("x") {
		r.want("x")
		base, most = 16, digits16
	}
	n, from := 0, r.at // 0, which is none, also where no digit stands
	for r.now() != ';' {
		digit := digitOf(r.now())
		if digit >= base || r.at-from == most {
			panic(api.ErrForm)
		}
		n = n*base + digit
		r.at++
	}
	r.want(";")
	if n == 0 || !utf8.ValidRune(rune(n)) {
		panic(api.ErrForm)
	}
	return string(rune(n))
}

// digitOf is what a digit means; 16, if it is none.
func digitOf(b byte) int {
	switch {
	case b >= '0' && b <= '9':
		return int(b - '0')
	case b >= 'a' && b <= 'f':
		return int(b-'a') + 10
	case b >= 'A' && b <= 'F':
		return int(b-'A') + 10
	}
	return 16
}

// comment reads a comment.
func (r *reader) comment() {
	r.want(beginComment)
	r.upTo(endComment)
}

// upTo reads all up to an end, and the end.
func (r *reader) upTo(end string) string {
	s, _, ok := strings.Cut(r.s[r.at:], end)
	if !ok {
		panic(api.ErrShort)
	}
	r.at += len(s) + len(end)
	return s
}

// blanks reads blanks at will, and tells whether there was one.
func (r *reader) blanks() bool {
	from := r.at
	for r.at < len(r.s) && isBlank(r.s[r.at]) {
		r.at++
	}
	return r.at > from
}

// blank reads one.
func (r *reader) blank() {
	if !isBlank(r.now()) {
		panic(api.ErrForm)
	}
	r.at++
}

// want reads just this.
func (r *reader) want(what string) {
	switch {
	case r.isAt(what):
		r.at += len(what)
	case r.isCut(what):
		panic(api.ErrShort)
	default:
		panic(api.ErrForm)
	}
}

// now is the byte that comes next.
func (r *reader) now() byte {
	if r.at == len(r.s) {
		panic(api.ErrShort)
	}
	return r.s[r.at]
}

// isAt tells whether this comes next.
func (r *reader) isAt(what string) bool { return strings.HasPrefix(r.s[r.at:], what) }

// isCut tells whether all that comes is the beginning of this.
func (r *reader) isCut(what string) bool { return strings.HasPrefix(what, r.s[r.at:]) }
