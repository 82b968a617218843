package rule

import (
	"slices"
	"strings"

	"almanac/api"
	"almanac/text"
	"almanac/value"
)

const (
	maxDigits = 4
	dayLong   = 2 // letters of a day of the week
)

// part is a part that a rule may have, with what reads one of its values: false, if that is none.
type part struct {
	name   string
	isList bool
	read   func(string) bool
}

// reader is a rule as far as it is read, and the names that stood.
type reader struct {
	rule  api.Rule
	names []string
}

// Parse reads a rule.
func Parse(s string) (api.Rule, api.Errno) {
	r := reader{rule: api.Rule{Interval: 1}}
	e := api.OK
reading:
	for one := range strings.SplitSeq(great(s), ";") {
		p, values, f := r.begin(one)
		if f != api.OK {
			e = f
			break
		}
		for _, v := range values {
			if !p.read(v) {
				e = api.ErrForm
				break reading
			}
		}
	}
	switch {
	case e != api.OK:
		return api.Rule{}, e
	case r.rule.Freq == 0:
		return api.Rule{}, api.ErrMiss
	case !Fit(r.rule):
		return api.Rule{}, api.ErrState
	}
	return r.rule, api.OK
}

// great is a text in great letters: those of other alphabets, which some take for them, stay as they are.
func great(s string) string {
	b := []byte(s)
	for i := range b {
		if b[i] >= 'a' && b[i] <= 'z' {
			b[i] -= 'a' - 'A'
		}
	}
	return string(b)
}

// begin reads a part as far as its values, which it tells as they stand.
func (r *reader) begin(s string) (part, []string, api.Errno) {
	name, v, isPart := strings.Cut(s, "=")
	p := r.part(name)
	values := p.values(v)
	switch {
	case !isPart:
		return part{}, nil, api.ErrForm
	case p.read == nil, p.name == freqName && freqOf(v) == 0:
		return part{}, nil, api.ErrKind
	case slices.Contains(r.names, name):
		return part{}, nil, api.ErrTwice
	case len(values) > mostValues:
		return part{}, nil, api.ErrMany
	}
	r.names = append(r.names, name)
	return p, values, api.OK
}

// part is the part of a name; one that nothing reads, if there is none.
func (r *reader) part(name string) part {
	for _, p := range []part{
		{freqName, false, r.freq},
		{intervalName, false, r.interval},
		{countName, false, r.count},
		{untilName, false, r.until},
		{monthName, true, r.month},
		{monthDayName, true, r.monthDay},
		{dayName, true, r.day},
		{placeName, true, r.place},
		{wkstName, false, r.wkst},
	} {
		if p.name == name {
			return p
		}
	}
	return part{}
}

// values is a part's values as they stand: at most one more than a list may have.
func (p part) values(s string) []string {
	if !p.isList {
		return []string{s}
	}
	return strings.SplitN(s, ",", mostValues+1)
}

func (r *reader) freq(s string) bool {
	r.rule.Freq = freqOf(s)
	return r.rule.Freq > 0
}

func (r *reader) interval(s string) bool {
	n, ok := count(s, mostInterval)
	r.rule.Interval = n
	return ok
}

func (r *reader) count(s string) bool {
	n, ok := count(s, mostCount)
	r.rule.Count = n
	return ok
}

func (r *reader) until(s string) bool {
	w, e := value.Time(s)
	r.rule.Until, r.rule.HasUntil = w, true
	return e == api.OK
}

func (r *reader) month(s string) bool {
	n, ok := count(s, lastMonth)
	r.rule.ByMonth = append(r.rule.ByMonth, n)
	return ok
}

func (r *reader) monthDay(s string) bool {
	n, ok := either(s, lastMonthDay)
	r.rule.ByMonthDay = append(r.rule.ByMonthDay, n)
	return ok
}

func (r *reader) day(s string) bool {
	at := max(0, len(s)-dayLong)
	one := api.WDay{Day: dayOf(s[at:])}
	ok := true
	if at > 0 {
		one.N, ok = either(s[:at], lastWeek)
	}
	r.rule.ByDay = append(r.rule.ByDay, one)
	return ok && one.Day >= 0
}

func (r *reader) place(s string) bool {
	n, ok := either(s, lastPlace)
	r.rule.BySetPos = append(r.rule.BySetPos, n)
	return ok
}

func (r *reader) wkst(s string) bool {
	r.rule.Wkst = dayOf(s)
	return r.rule.Wkst >= 0
}

// freqOf is what a frequency's name means; 0, if it is none.
func freqOf(s string) int { return max(0, slices.Index(freqs[:], s)) }

// dayOf is the day of the week that a text names; below 0, if there is none.
func dayOf(s string) int { return slices.Index(days[:], s) }

// count reads a number from 1 on.
func count(s string, most int) (int, bool) {
	n, ok := text.Number(s, int64(most))
	return int(n), ok && n > 0 && len(s) <= maxDigits
}

// either reads a number from 1 on, or from -1 on downwards.
func either(s string, most int) (int, bool) {
	size, isBelow := strings.CutPrefix(s, "-")
	if !isBelow {
		size = strings.TrimPrefix(s, "+")
	}
	n, ok := count(size, most)
	if isBelow {
		n = -n
	}
	return n, ok
}
