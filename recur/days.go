package recur

import (
	"iter"
	"slices"

	"almanac/api"
	"almanac/date"
)

// span is days that follow one another.
type span struct{ first, last int64 }

// month is the days of one, with its number in the year.
type month struct {
	span
	number int
}

// monthOf is a month of a year; false, if there is none.
func monthOf(y, m int) (month, bool) {
	first, ok := date.Days(y, m, 1)
	return month{span{first, first + int64(date.Length(y, m)) - 1}, m}, ok
}

// isInYears tells whether a day lies in the years.
func isInYears(n int64) bool {
	_, _, _, ok := date.Civil(n)
	return ok
}

// periods hands out the periods of a rule, as far as they lie in the years.
func (s search) periods() iter.Seq[span] {
	return func(yield func(span) bool) {
		for n := 0; ; n += s.Interval {
			p, ok := s.period(n)
			if !ok || !yield(p) {
				return
			}
		}
	}
}

// period is the year, month, week or day that is so many behind start's; false, if it does not lie in the years, where start's week may begin ahead of them.
func (s search) period(n int) (span, bool) {
	switch s.Freq {
	case api.FrYearly:
		january, ok := monthOf(s.year+n, 1)
		december, _ := monthOf(s.year+n, months)
		return span{january.first, december.last}, ok
	case api.FrMonthly:
		ahead := s.month - 1 + n
		m, ok := monthOf(s.year+ahead/months, ahead%months+1)
		return m.span, ok
	case api.FrWeekly:
		begun := (date.Weekday(s.day) - s.Wkst + week) % week
		first := s.day - int64(begun) + week*int64(n)
		return span{first, first + week - 1}, n == 0 || isInYears(first)
	}
	day := s.day + int64(n)
	return span{day, day}, isInYears(day)
}

// days hands out the days of a period, in order.
func (s search) days(p span) iter.Seq[int64] {
	if len(s.BySetPos) == 0 {
		return s.listed(p)
	}
	return func(yield func(int64) bool) {
		l := slices.Collect(s.listed(p))
		for i, n := range l {
			if hasEither(s.BySetPos, i, len(l)) && !yield(n) {
				return
			}
		}
	}
}

// listed hands out those of a period's days that each list has, in order.
func (s search) listed(p span) iter.Seq[int64] {
	return func(yield func(int64) bool) {
		for m := range p.months() {
			if len(s.ByMonth) > 0 && !slices.Contains(s.ByMonth, m.number) {
				continue
			}
			in := m.span
			if s.Freq == api.FrYearly && len(s.ByMonth) == 0 {
				in = p
			}
			for n := max(p.first, m.first); n <= min(p.last, m.last); n++ {
				if s.hasNumber(n, m) && s.hasWeekday(n, in) && !yield(n) {
					return
				}
			}
		}
	}
}

// months hands out the months of the years in which some of the days lie.
func (p span) months() iter.Seq[month] {
	return func(yield func(month) bool) {
		for n := p.first; n <= p.last; {
			y, number, _, ok := date.Civil(n)
			if !ok {
				n++
				continue
			}
			m, _ := monthOf(y, number)
			if !yield(m) {
				return
			}
			n = m.last + 1
		}
	}
}

// hasNumber tells whether a rule may have a day by its number in its month.
func (s search) hasNumber(n int64, m month) bool {
	return len(s.ByMonthDay) == 0 || hasEither(s.ByMonthDay, int(n-m.first), int(m.last-m.first)+1)
}

// hasEither tells whether a list has the place behind so many of them all, counted from ahead or from behind.
func hasEither(l []int, ahead, all int) bool {
	return slices.Contains(l, ahead+1) || slices.Contains(l, ahead-all)
}

// hasWeekday tells whether a rule may have a day by its weekday, which is counted in the days of its month or year.
func (s search) hasWeekday(n int64, in span) bool {
	return len(s.ByDay) == 0 || slices.ContainsFunc(s.ByDay, func(d api.WDay) bool { return in.isOne(n, d) })
}

// isOne tells whether a day is such a one among these days.
func (p span) isOne(n int64, d api.WDay) bool {
	switch {
	case date.Weekday(n) != d.Day:
		return false
	case d.N > 0:
		return int64(d.N) == (n-p.first)/week+1
	case d.N < 0:
		return int64(d.N) == (n-p.last)/week-1
	}
	return true
}
