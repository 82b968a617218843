package comp_test

import (
	"math/rand/v2"
	"slices"
	"strings"

	"almanac/api"
	"almanac/line"
)

// drawer draws components, and texts of components.
type drawer struct {
	*rand.Rand
	left int // lines that may come
}

func newDrawer(seed uint64) *drawer { return &drawer{Rand: rand.New(rand.NewPCG(12, seed))} }

// rarely is true once in so many times.
func (d *drawer) rarely(n int) bool { return d.IntN(n) == 0 }

func oneOf[T any](d *drawer, l ...T) T { return l[d.IntN(len(l))] }

// name is a name in great letters.
func (d *drawer) name() string {
	if d.rarely(2) {
		return oneOf(d, "A", "B", "VCALENDAR", "VEVENT", "VALARM", "X-9", "-")
	}
	const bytes = "ABCDEFGHIJKLMNOPQRSTUVWXYZ0123456789-"
	s := ""
	for range 1 + d.IntN(oneOf(d, 1, 8, 64)) {
		s += bytes[d.IntN(len(bytes)):][:1]
	}
	return s
}

// words is a text of so many pieces at most.
func (d *drawer) words(most int, pieces ...string) string {
	s := ""
	for range d.IntN(most + 1) {
		s += oneOf(d, pieces...)
	}
	return s
}

// prop is a property that a component can have.
func (d *drawer) prop() api.Prop {
	for {
		p := prop(d.name(), d.words(oneOf(d, 0, 3, 10, 40, 300), "x", "yz", " ", "\t", `"`, ",", ";", ":", "=", "BEGIN", "END:A", "\u00e9", "\u20ac", "\U0010ffff"))
		for range d.IntN(oneOf(d, 1, 1, 3, 17)) {
			one := param(d.name())
			for range 1 + d.IntN(oneOf(d, 1, 1, 4)) {
				one.Values = append(one.Values, d.words(oneOf(d, 1, 6), "x", " ", ",", ";", ":", "=", "\u00e9", "END"))
			}
			p.Params = append(p.Params, one)
		}
		if line.Fit(p) && !isMark(p) {
			return p
		}
	}
}

// comp is a component that is fit, but perhaps too long.
func (d *drawer) comp() api.Comp {
	d.left = oneOf(d, 2, 6, 15, 15, 40, 40, 100, 450)
	return d.below(oneOf(d, 1, 4, 4, 12), oneOf(d, 1, 3, 6, 40))
}

func (d *drawer) below(deep, props int) api.Comp {
	d.left -= 2
	c := of(d.name())
	for n := d.IntN(props); n > 0 && d.left > 0; n-- {
		d.left--
		c.Props = append(c.Props, d.prop())
	}
	for n := d.IntN(oneOf(d, 2, 4, 40)); n > 0 && d.left > 0 && deep > 1; n-- {
		c.Comps = append(c.Comps, d.below(deep-1, props))
	}
	return c
}

// lines is a component's lines, what stands in it in any order that keeps properties' and components' own.
func (d *drawer) lines(c api.Comp) []string {
	l := []string{"BEGIN:" + c.Name}
	for props, comps := c.Props, c.Comps; len(props)+len(comps) > 0; {
		if d.IntN(len(props)+len(comps)) < len(props) {
			l = append(l, line.Print(props[0]))
			props = props[1:]
		} else {
			l = append(l, d.lines(comps[0])...)
			comps = comps[1:]
		}
	}
	return append(l, "END:"+c.Name)
}

// turned is lines in which names have some of their letters small, or great.
func (d *drawer) turned(l []string) []string {
	out := slices.Clone(l)
	for i, one := range out {
		p, e := line.Parse(one)
		switch {
		case e != api.OK:
			continue
		case isMark(p) && len(p.Params) == 0 && nameExp.MatchString(p.Value):
			out[i] = d.letters(one)
			continue
		}
		s := d.letters(one[:len(p.Name)])
		for rest := one[len(p.Name):]; ; {
			eq := strings.IndexByte(rest, '=')
			if rest == "" || rest[0] != ';' || eq < 0 {
				s += rest
				break
			}
			s += d.letters(rest[:eq])
			rest = rest[eq:]
			n, in := 0, false
			for in || rest[n] != ';' && rest[n] != ':' { // values stay as they are
				in = in != (rest[n] == '"')
				n++
			}
			s += rest[:n]
			rest = rest[n:]
		}
		out[i] = s
	}
	return out
}

// letters is a text with some of its letters small, some great.
func (d *drawer) letters(s string) string {
	small, b := strings.ToLower(s), []byte(strings.ToUpper(s))
	for i := range b {
		if d.rarely(2) {
			b[i] = small[i]
		}
	}
	return string(b)
}

// folded is lines as a text, folded anywhere or nowhere.
func (d *drawer) folded(l []string) string {
	var b strings.Builder
	often := oneOf(d, 5, 60, 100000)
	for k, one := range l {
		for i := range len(one) {
			if i > 0 && d.rarely(often) {
				b.WriteString(oneOf(d, "\n ", "\r\n\t", "\r\n ", "\n \r\n\t"))
			}
			b.WriteByte(one[i])
		}
		if k < len(l)-1 || d.rarely(2) {
			b.WriteString(oneOf(d, "\n", "\r\n"))
		}
	}
	return b.String()
}

// spelt is a text that Parse is to read as a component.
func (d *drawer) spelt(c api.Comp) string { return d.folded(d.turned(d.lines(c))) }

// other is lines that may stand in a text, right or wrong there.
func (d *drawer) other(l []string) []string {
	switch {
	case d.rarely(20):
		return slices.Repeat([]string{"Y:"}, 400)
	case d.rarely(20):
		return []string{"Y:" + times("y", 1000+d.IntN(30))}
	case d.rarely(12):
		return slices.Repeat([]string{"BEGIN:A"}, d.IntN(14))
	case d.rarely(12):
		n := d.IntN(13)
		return slices.Concat(slices.Repeat([]string{"BEGIN:B"}, n), slices.Repeat([]string{"END:B"}, n))
	case len(l) > 0 && d.rarely(4):
		return []string{oneOf(d, l...)}
	}
	return []string{oneOf(d, "X:1", "X", "?", "BEGIN:A", "END:A", "BEGIN:", "END:", "BEGIN;X=1:A", "END;X=1:A", "end:"+times("n", 65), "BEGIN: A", "BEGIN:A:B", "", " 1", "\tz", "X:\xff", times("N", 65)+":")}
}

// spoilt is a component with one thing, or more, changed, so that it may be none any more.
func (d *drawer) spoilt(c api.Comp) api.Comp {
	c = copied(c)
	for range 1 + d.IntN(2) {
		at := &c
		for len(at.Comps) > 0 && !d.rarely(3) {
			at = &at.Comps[d.IntN(len(at.Comps))]
		}
		n := len(at.Props)
		switch {
		case d.rarely(5):
			at.Name = oneOf(d, "", "a", at.Name+"b", at.Name+"B", times("Z", 64), times("Z", 65), "A:B")
		case d.rarely(5):
			at.Comps = append(at.Comps, within(of("I"), d.IntN(13)))
		case d.rarely(5):
			at.Comps = slices.Repeat(at.Comps, 2)
		case n == 0 || d.rarely(3):
			at.Props = append(at.Props, oneOf(d, prop("BEGIN", "A"), prop("END", "A"), prop("X", "1"), prop("x", "1"), prop("X", "\n"), prop("", ""), d.prop()))
		case d.rarely(3):
			at.Props = slices.Delete(at.Props, n-1, n)
		case d.rarely(3):
			at.Props[d.IntN(n)].Name = oneOf(d, "BEGIN", "END", "", "x", "X", "XEND")
		default:
			at.Props[d.IntN(n)].Value += oneOf(d, "", "x", "\x00", "\xff", "\r", times("x", 900))
		}
	}
	return c
}
