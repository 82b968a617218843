package comp

import (
	"almanac/api"
	"almanac/line"
)

// Parse reads a component.
func Parse(s string) (api.Comp, api.Errno) {
	l, e := line.Unfold(s)
	if e != api.OK {
		return api.Comp{}, e
	}
	open := []api.Comp{{}} // those that have begun and not ended, one in another, all in one that stands for the text
reading:
	for _, one := range l {
		p, e := line.Parse(one)
		in := &open[len(open)-1]
		switch {
		case e != api.OK:
			return api.Comp{}, e
		case len(open) == 1 && (p.Name != begin || len(in.Comps) > 0):
			return api.Comp{}, api.ErrForm
		case p.Name != begin && p.Name != end:
			in.Props = append(in.Props, p)
			continue reading
		}
		name, ok := marked(p)
		switch {
		case !ok:
			return api.Comp{}, api.ErrForm
		case p.Name == begin && len(open) > api.MaxDepth:
			return api.Comp{}, api.ErrDeep
		case p.Name == begin:
			open = append(open, api.Comp{Name: name})
			continue reading
		case name != in.Name:
			return api.Comp{}, api.ErrMatch
		}
		open = ended(open)
	}
	if len(open[0].Comps) == 0 {
		return api.Comp{}, api.ErrShort
	}
	return open[0].Comps[0], api.OK
}

// marked is the name of the component that a BEGIN or an END marks; false, if it marks none.
func marked(p api.Prop) (string, bool) {
	q, e := line.Parse(p.Value + ":") // a name, if all of it is what a property may be called by
	return q.Name, e == api.OK && len(q.Name) == len(p.Value) && len(p.Params) == 0
}

// ended lays the innermost component into the one around it.
func ended(open []api.Comp) []api.Comp {
	last := len(open) - 1
	around := &open[last-1]
	around.Comps = append(around.Comps, open[last])
	return open[:last]
}
