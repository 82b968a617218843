package xml_test

import (
	"strconv"
	"strings"
	"unicode/utf8"

	"almanac/api"
)

const (
	letters = "ABCDEFGHIJKLMNOPQRSTUVWXYZabcdefghijklmnopqrstuvwxyz_"
	nexts   = letters + "0123456789-."
	spaced  = " \t\n\r"
	lang    = "http://www.w3.org/XML/1998/namespace"
)

// What a model has read last.
const (
	inNothing  = iota // nothing at all
	inFirst           // a < as the first byte
	inHead            // <?xml
	inAhead           // what may stand ahead of the element
	inAheadLt         // a < there
	inBehind          // what may stand behind it
	inBehindLt        // a < there
	inFixed           // the beginning of what is fixed
	inUpTo            // what goes on up to an end
	inText            // text in an element
	inTextLt          // a < there
	inTextMark        // a <! there
	inName            // the beginning of a name
	inTag             // the name of an element, or a value
	inTagBlank        // a blank behind that
	inTagSlash        // a / behind that
	inAttr            // an attribute's name
	inEqual           // its =
	inValue           // a part of its value
	inEnd             // the name in an element's end
	inRef             // a part of a reference
)

// pair is an attribute as it is written.
type pair struct{ name, value string }

// node is an element that is begun and not ended.
type node struct {
	name  string
	pairs []pair
	elem  api.Elem
}

// model reads a text byte by byte, and knows of each byte whether it may follow; it looks neither ahead nor back.
type model struct {
	in    int
	fixed string // what must come
	end   string // what ends what goes on behind that; "": nothing goes on
	kept  bool   // what goes on is text
	then  int    // where to go behind that, behind a name, or behind a reference
	last  string // what came of what goes on, of a name, of a reference
	quote byte
	value string
	attr  string
	began int
	open  []*node
	root  api.Elem
}

// modelParse is what Parse is to tell.
func modelParse(s string) (api.Elem, api.Errno) {
	if len(s) > 8192 {
		return api.Elem{}, api.ErrLong
	}
	if !utf8.ValidString(s) || strings.Contains(s, "\x00") {
		return api.Elem{}, api.ErrForm
	}
	m := &model{}
	for i := range len(s) {
		if e := m.feed(s[i]); e != api.OK {
			return api.Elem{}, e
		}
	}
	if m.in == inName && m.then == inEnd && isWholeName(m.last) && m.last != m.top().name {
		return api.Elem{}, api.ErrMatch
	}
	if m.in != inBehind {
		return api.Elem{}, api.ErrShort
	}
	return m.root, api.OK
}

func (m *model) top() *node { return m.open[len(m.open)-1] }

func isIn(b byte, set string) bool { return strings.IndexByte(set, b) >= 0 }

// isWholeName tells whether what came of a name is one.
func isWholeName(s string) bool { return s != "" && !strings.HasSuffix(s, ":") }

// feed is what a byte does; an error, if it may not come.
func (m *model) feed(b byte) api.Errno {
	switch m.in {
	case inNothing:
		if b == '<' {
			m.in = inFirst
			return api.OK
		}
		return m.again(inAhead, b)
	case inFirst:
		if b == '?' {
			return m.fix("xml", "", false, inHead)
		}
		return m.again(inAheadLt, b)
	case inHead:
		if !isIn(b, spaced) {
			return api.ErrForm
		}
		m.in, m.end, m.kept, m.then, m.last = inUpTo, "?>", false, inAhead, ""
		return api.OK
	case inAhead, inBehind:
		if b == '<' {
			m.in++ // the < there
			return api.OK
		}
		return only(isIn(b, spaced))
	case inAheadLt:
		if b == '!' {
			return m.comment("--", inAhead)
		}
		return m.begin(b)
	case inBehindLt:
		if b != '!' {
			return api.ErrForm
		}
		return m.comment("--", inBehind)
	case inFixed:
		if b != m.fixed[0] {
			return api.ErrForm
		}
		if m.fixed = m.fixed[1:]; m.fixed == "" {
			m.in = m.then
			if m.end != "" {
				m.in, m.last = inUpTo, ""
			}
		}
		return api.OK
	case inUpTo:
		return m.more(b)
	case inText, inTextLt, inTextMark:
		return m.text(b)
	case inName:
		return m.name(b)
	case inRef:
		return m.ref(b)
	}
	return m.tag(b)
}

// only is no error, if a byte may come.
func only(may bool) api.Errno {
	if may {
		return api.OK
	}
	return api.ErrForm
}

// again feeds a byte where another state is in.
func (m *model) again(in int, b byte) api.Errno {
	m.in = in
	return m.feed(b)
}

// fix wants fixed bytes, and behind them all up to an end, if there is one.
func (m *model) fix(what, end string, kept bool, then int) api.Errno {
	m.in, m.fixed, m.end, m.kept, m.then = inFixed, what, end, kept, then
	return api.OK
}

// comment wants the rest of a comment's beginning, and what stands in it.
func (m *model) comment(rest string, then int) api.Errno { return m.fix(rest, "-->", false, then) }

// more is what a byte does in what goes on up to an end.
func (m *model) more(b byte) api.Errno {
	m.last += string([]byte{b})
	if strings.HasSuffix(m.last, m.end) {
		if m.kept {
			m.top().elem.Text += m.last[:len(m.last)-len(m.end)]
		}
		m.in = m.then
	}
	return api.OK
}

// text is what a byte does in an element's text, and in what begins there with a <.
func (m *model) text(b byte) api.Errno {
	switch {
	case m.in == inText && b == '<':
		m.in = inTextLt
	case m.in == inText && b == '&':
		m.in, m.then, m.last = inRef, inText, ""
	case m.in == inText:
		m.top().elem.Text += string([]byte{b})
	case m.in == inTextLt && b == '/':
		m.in, m.then, m.last = inName, inEnd, ""
	case m.in == inTextLt && b == '!':
		m.in = inTextMark
	case m.in == inTextLt:
		return m.begin(b)
	case b == '-':
		return m.comment("-", inText)
	case b == '[':
		return m.fix("CDATA[", "]]>", true, inText)
	default:
		return api.ErrForm
	}
	return api.OK
}

// begin is what the first byte behind the < of an element does.
func (m *model) begin(b byte) api.Errno {
	switch {
	case !isIn(b, letters):
		return api.ErrForm
	case len(m.open) >= 12:
		return api.ErrDeep
	case m.began >= 400:
		return api.ErrMany
	}
	m.began++
	m.in, m.then, m.last = inName, inTag, string([]byte{b})
	return api.OK
}

// name is what a byte does in a name, or behind it.
func (m *model) name(b byte) api.Errno {
	prefix, rest, two := strings.Cut(m.last, ":")
	part := prefix
	if two {
		part = rest
	}
	switch {
	case part == "" && !isIn(b, letters):
		return api.ErrForm
	case isIn(b, nexts) && len(part) == 64:
		return api.ErrLong
	case isIn(b, nexts), b == ':' && !two:
		m.last += string([]byte{b})
		return api.OK
	}
	switch m.then {
	case inTag:
		m.open = append(m.open, &node{name: m.last})
	case inAttr:
		m.attr = m.last
	case inEnd:
		if m.last != m.top().name {
			return api.ErrMatch
		}
	}
	return m.again(m.then, b)
}

// tag is what a byte does in an element's beginning or end, but for names.
func (m *model) tag(b byte) api.Errno {
	switch m.in {
	case inTag, inTagBlank:
		switch {
		case isIn(b, spaced):
			m.in = inTagBlank
		case b == '>':
			return m.begun(false)
		case b == '/':
			m.in = inTagSlash
		case m.in == inTagBlank && isIn(b, letters):
			m.in, m.then, m.last = inName, inAttr, string([]byte{b})
		default:
			return api.ErrForm
		}
	case inTagSlash:
		if b != '>' {
			return api.ErrForm
		}
		return m.begun(true)
	case inAttr:
		if b == '=' {
			m.in = inEqual
			return api.OK
		}
		return only(isIn(b, spaced))
	case inEqual:
		if b == '"' || b == '\'' {
			m.in, m.quote, m.value = inValue, b, ""
			return api.OK
		}
		return only(isIn(b, spaced))
	case inValue:
		switch b {
		case m.quote:
			m.in = inTag
			m.top().pairs = append(m.top().pairs, pair{m.attr, m.value})
		case '<':
			return api.ErrForm
		case '&':
			m.in, m.then, m.last = inRef, inValue, ""
		default:
			m.value += string([]byte{b})
		}
	case inEnd:
		if b == '>' {
			m.ended()
			return api.OK
		}
		return only(isIn(b, spaced))
	}
	return api.OK
}

// refs is all references by name.
var refs = map[string]string{"lt;": "<", "gt;": ">", "amp;": "&", "quot;": "\"", "apos;": "'"}

// ref is what a byte does in a reference.
func (m *model) ref(b byte) api.Errno {
	m.last += string([]byte{b})
	means, known := refs[m.last]
	switch {
	case known:
	case strings.HasPrefix(m.last, "#"):
		digits, base, most, set := m.last[1:], 10, 7, "0123456789"
		if strings.HasPrefix(digits, "x") {
			digits, base, most, set = digits[1:], 16, 6, "0123456789abcdefABCDEF"
		}
		digits, isEnd := strings.CutSuffix(digits, ";")
		if len(digits) > most || strings.Trim(digits, set) != "" || isEnd && digits == "" {
			return api.ErrForm
		}
		if !isEnd {
			return api.OK
		}
		n, _ := strconv.ParseUint(digits, base, 32)
		if n == 0 || n > 0x10ffff || n >= 0xd800 && n < 0xe000 {
			return api.ErrForm
		}
		means = string(rune(n))
	default:
		for one := range refs {
			if strings.HasPrefix(one, m.last) {
				return api.OK
			}
		}
		return api.ErrForm
	}
	if m.in = m.then; m.in == inValue {
		m.value += means
	} else {
		m.top().elem.Text += means
	}
	return api.OK
}

// spaceOf is what a prefix means in the elements that are open; false: nothing.
func (m *model) spaceOf(prefix string) (string, bool) {
	says := "xmlns:" + prefix
	if prefix == "" {
		says = "xmlns"
	}
	for i := len(m.open) - 1; i >= 0; i-- {
		for _, p := range m.open[i].pairs {
			if p.name == says {
				return p.value, true
			}
		}
	}
	switch prefix {
	case "":
		return "", true
	case "xml":
		return lang, true
	}
	return "", false
}

// split is a name's prefix and the rest of it.
func split(name string) (string, string) {
	prefix, rest, two := strings.Cut(name, ":")
	if !two {
		return "", prefix
	}
	return prefix, rest
}

// begun is what the end of an element's beginning does.
func (m *model) begun(isWhole bool) api.Errno {
	n := m.top()
	for i, p := range n.pairs {
		for _, q := range n.pairs[:i] {
			if p.name == q.name {
				return api.ErrTwice
			}
		}
	}
	for _, p := range n.pairs {
		prefix, rest := split(p.name)
		if prefix == "xmlns" && (p.value == "" || rest == "xmlns" || rest == "xml") {
			return api.ErrName
		}
	}
	prefix, rest := split(n.name)
	space, ok := m.spaceOf(prefix)
	if !ok {
		return api.ErrName
	}
	n.elem.Space, n.elem.Name = space, rest
	for _, p := range n.pairs {
		prefix, rest := split(p.name)
		if prefix == "xmlns" || p.name == "xmlns" {
			continue
		}
		space, ok := "", true
		if prefix != "" {
			space, ok = m.spaceOf(prefix)
		}
		if !ok {
			return api.ErrName
		}
		n.elem.Attrs = append(n.elem.Attrs, api.Attr{Space: space, Name: rest, Value: p.value})
	}
	for i, a := range n.elem.Attrs {
		for _, b := range n.elem.Attrs[:i] {
			if a.Space == b.Space && a.Name == b.Name {
				return api.ErrTwice
			}
		}
	}
	m.in = inText
	if isWhole {
		m.ended()
	}
	return api.OK
}

// ended is what the end of an element does.
func (m *model) ended() {
	e := m.top().elem
	m.open = m.open[:len(m.open)-1]
	if len(m.open) == 0 {
		m.root, m.in = e, inBehind
		return
	}
	m.top().elem.Kids = append(m.top().elem.Kids, e)
	m.in = inText
}
