package line

import (
	"strings"

	"almanac/api"
	"almanac/text"
)

// Places in a property.
const (
	inName   = iota // its name
	inParam         // a parameter's name
	inBare          // a parameter's value that stands alone
	inQuoted        // one between two "
	inBehind        // behind the second "
	inValue         // its value
)

// reader is a property as far as it is read: in is the place where its next byte stands, got what has come of what stands there.
type reader struct {
	prop api.Prop
	in   int
	got  []byte
}

// Parse reads a property.
func Parse(s string) (api.Prop, api.Errno) {
	switch {
	case len(s) > api.MaxLine:
		return api.Prop{}, api.ErrLong
	case !text.Valid(s):
		return api.Prop{}, api.ErrForm
	}
	r, e := &reader{}, api.OK
line:
	for i := range len(s) {
		b := s[i]
		switch {
		case r.goesOn(b) && r.isFull():
			e = api.ErrLong
			break line
		case r.goesOn(b):
			r.got = append(r.got, b)
		case !r.ends(b):
			e = api.ErrForm
			break line
		case b == ';' && len(r.prop.Params) == mostParams:
			e = api.ErrMany
			break line
		default:
			r.end(b)
		}
	}
	switch {
	case e != api.OK:
		return api.Prop{}, e
	case r.in != inValue:
		return api.Prop{}, api.ErrShort
	}
	r.keep()
	return r.prop, api.OK
}

// goesOn tells whether a byte is one more of what stands here.
func (r *reader) goesOn(b byte) bool {
	switch r.in {
	case inName, inParam:
		return isOfName(b)
	case inBare:
		return mayBare(b)
	case inQuoted:
		return mayQuote(b)
	case inValue:
		return mayStand(b)
	}
	return false
}

// isFull tells whether what stands here can have no more bytes.
func (r *reader) isFull() bool {
	return (r.in == inName || r.in == inParam) && len(r.got) == longName
}

// ends tells whether a byte may end what stands here.
func (r *reader) ends(b byte) bool {
	isBegun, isMark := len(r.got) > 0, strings.IndexByte(marks, b) >= 0
	switch r.in {
	case inName:
		return isBegun && (b == ';' || b == ':')
	case inParam:
		return isBegun && b == '='
	case inBare:
		return isMark || b == '"' && !isBegun
	case inQuoted:
		return b == '"'
	case inBehind:
		return isMark
	}
	return false
}

// end goes on to the place that a byte begins, and keeps what it ends.
func (r *reader) end(b byte) {
	if b != '"' { // what stands between two is kept by what comes behind them
		r.keep()
	}
	switch {
	case b == ';':
		r.in = inParam
	case b == ':':
		r.in = inValue
	case b != '"':
		r.in = inBare
	case r.in == inBare:
		r.in = inQuoted
	default:
		r.in = inBehind
	}
}

// keep lays what has come into the property.
func (r *reader) keep() {
	s := string(r.got)
	r.got = nil
	switch r.in {
	case inName:
		r.prop.Name = strings.ToUpper(s)
	case inParam:
		r.prop.Params = append(r.prop.Params, api.Param{Name: strings.ToUpper(s)})
	case inValue:
		r.prop.Value = s
	default:
		one := &r.prop.Params[len(r.prop.Params)-1]
		one.Values = append(one.Values, s)
	}
}
