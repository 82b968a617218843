package recur_test

import (
	"fmt"
	"math"
	"math/rand/v2"
	"reflect"
	"slices"
	"strings"
	"sync"
	"testing"
	"time"
	"unsafe"

	"almanac/api"
	"almanac/date"
	"almanac/recur"
	"almanac/rule"
)

const (
	daySecs   = 86400
	firstDay  = -719162
	lastDay   = 2932896
	firstTime = -62135596800
	lastTime  = 253402300799
)

// civil is a day as the library has it.
type civil struct {
	y          int16
	m, d       int8
	long       int8 // days of its month
	wd         int8 // 0: Monday
	yd, ylong  int16
	begunWeeks int32 // how many Mondays there are up to it
}

// calendar is all days there are, from the first one on.
var calendar = sync.OnceValue(func() []civil {
	l := make([]civil, 0, lastDay-firstDay+1)
	mondays := int32(0)
	for y := 1; y <= 9999; y++ {
		ylong := time.Date(y, 12, 31, 0, 0, 0, 0, time.UTC).YearDay()
		yd := 0
		for m := 1; m <= 12; m++ {
			first := time.Date(y, time.Month(m), 1, 0, 0, 0, 0, time.UTC)
			long := first.AddDate(0, 1, -1).Day()
			wd := (int(first.Weekday()) + 6) % 7
			for d := 1; d <= long; d++ {
				yd++
				if wd == 0 {
					mondays++
				}
				l = append(l, civil{int16(y), int8(m), int8(d), int8(long), int8(wd), int16(yd), int16(ylong), mondays})
				wd = (wd + 1) % 7
			}
		}
	}
	return l
})

// civilOf is a day by its number; false, if it lies beyond the years.
func civilOf(n int64) (civil, bool) {
	if n < firstDay || n > lastDay {
		return civil{}, false
	}
	return calendar()[n-firstDay], true
}

// numberAmong is which one a day is among those of its weekday in its month or year, counted one by one, seven days apart.
func numberAmong(n, step int64, within func(a, b civil) bool) int {
	at, _ := civilOf(n)
	count := 0
	for c, ok := at, true; ok && within(at, c); c, ok = civilOf(n) {
		count++
		n += step
	}
	return count
}

func sameMonth(a, b civil) bool { return a.y == b.y && a.m == b.m }

func sameYear(a, b civil) bool { return a.y == b.y }

// isWeekdayOf tells whether a day is what one of ByDay says.
func isWeekdayOf(n int64, r api.Rule, w api.WDay) bool {
	c, _ := civilOf(n)
	if int(c.wd) != w.Day {
		return false
	}
	within := sameYear
	if r.Freq == api.FrMonthly || r.Freq == api.FrYearly && len(r.ByMonth) > 0 {
		within = sameMonth
	}
	switch {
	case w.N > 0:
		return numberAmong(n, -7, within) == w.N
	case w.N < 0:
		return numberAmong(n, 7, within) == -w.N
	}
	return true
}

// holds tells whether all that the chapter says of the days of a period holds of one, but for BySetPos.
func holds(n int64, start civil, r api.Rule) bool {
	c, _ := civilOf(n)
	if len(r.ByMonth) != 0 && !slices.Contains(r.ByMonth, int(c.m)) {
		return false
	}
	if len(r.ByMonthDay) != 0 && !slices.ContainsFunc(r.ByMonthDay, func(d int) bool { return d == int(c.d) || d == int(c.d-c.long)-1 }) {
		return false
	}
	if len(r.ByDay) != 0 && !slices.ContainsFunc(r.ByDay, func(w api.WDay) bool { return isWeekdayOf(n, r, w) }) {
		return false
	}
	if len(r.ByDay) == 0 && r.Freq == api.FrWeekly && c.wd != start.wd {
		return false
	}
	if len(r.ByDay) == 0 && len(r.ByMonthDay) == 0 {
		if (r.Freq == api.FrYearly || r.Freq == api.FrMonthly) && c.d != start.d {
			return false
		}
		if r.Freq == api.FrYearly && len(r.ByMonth) == 0 && c.m != start.m {
			return false
		}
	}
	return true
}

// weekOf is a number that rises by one with each day of the week that weeks begin on.
func weekOf(n int64, wkst int) int {
	c, _ := civilOf(n)
	mondays := int(c.begunWeeks)
	if int(c.wd) < wkst {
		return mondays - 1
	}
	return mondays
}

// unitOf is the year, month, week or day in which a day lies, as a number that rises by one.
func unitOf(n int64, r api.Rule) int {
	c, _ := civilOf(n)
	switch r.Freq {
	case api.FrYearly:
		return int(c.y)
	case api.FrMonthly:
		return int(c.y)*12 + int(c.m)
	case api.FrWeekly:
		return weekOf(n, r.Wkst)
	}
	return int(n)
}

// walk goes through the days one by one.
type walk struct {
	r        api.Rule
	start    int64
	secs     int64
	at       civil // start's day
	until    int64
	told     []int64 // the occurrences so far
	held     []int64 // those days of the period at hand of which all holds
	gone     int     // periods
	isBeyond bool    // there was one later than Until
}

// endPeriod tells the occurrences of the period at hand.
func (w *walk) endPeriod() {
	for i, n := range w.held {
		if len(w.r.BySetPos) != 0 && !slices.Contains(w.r.BySetPos, i+1) && !slices.Contains(w.r.BySetPos, -(len(w.held)-i)) {
			continue
		}
		t := n*daySecs + w.secs
		if t <= w.start {
			continue
		}
		w.isBeyond = w.isBeyond || t > w.until
		if t <= w.until && (w.r.Count == 0 || len(w.told) < w.r.Count) {
			w.told = append(w.told, t)
		}
	}
	w.held = nil
}

// isThrough tells whether a period is not gone through any more.
func (w *walk) isThrough(begin, to int64) bool {
	return w.r.Count != 0 && len(w.told) >= w.r.Count || begin >= to || w.gone > 0 && begin > w.until || w.isBeyond
}

// model is the occurrences of the periods that are gone through, start first; false, if there were too many.
func model(start int64, r api.Rule, to int64) ([]int64, bool) {
	day := (start-firstTime)/daySecs + firstDay
	w := &walk{r: r, start: start, secs: start - day*daySecs, until: math.MaxInt64, told: []int64{start}}
	w.at, _ = civilOf(day)
	if r.HasUntil {
		w.until = r.Until.Secs
		if r.Until.Date {
			w.until = r.Until.Secs + 23*3600 + 59*60 + 59
		}
	}
	first := day
	for first > firstDay && unitOf(first-1, r) == unitOf(day, r) {
		first--
	}
	unit := unitOf(day, r)
	last := unit - 1
	for n := first; n <= lastDay; n++ {
		u := unitOf(n, r)
		if (u-unit)%r.Interval != 0 {
			continue
		}
		if u != last {
			w.endPeriod()
			begin := n
			if u == unit && r.Freq == api.FrWeekly {
				begin = day - int64((int(w.at.wd)-r.Wkst+7)%7)
			}
			if w.isThrough(begin*daySecs, to) {
				return w.told, true
			}
			if w.gone == 4000 {
				return nil, false
			}
			last = u
			w.gone++
		}
		if holds(n, w.at, r) {
			w.held = append(w.held, n)
		}
	}
	w.endPeriod()
	return w.told, true
}

// modelTimes is what Times is to tell.
func modelTimes(start int64, r api.Rule, from, to int64, most int) ([]int64, api.Errno) {
	switch {
	case start < firstTime || start > lastTime:
		return nil, api.ErrNumber
	case !rule.Fit(r):
		return nil, api.ErrState
	}
	l, ok := model(start, r, to)
	if !ok {
		return nil, api.ErrMany
	}
	l = slices.DeleteFunc(l, func(t int64) bool { return t < from || t >= to })
	if len(l) > max(most, 0) {
		return nil, api.ErrMany
	}
	return l, api.OK
}

// modelLast is what Last is to tell.
func modelLast(start int64, r api.Rule) (int64, bool) {
	if start < firstTime || start > lastTime || !rule.Fit(r) || r.Count == 0 && !r.HasUntil {
		return 0, false
	}
	l, ok := model(start, r, math.MaxInt64)
	if !ok {
		return 0, false
	}
	return l[len(l)-1], true
}

// copied is a rule in memory of its own.
func copied(r api.Rule) api.Rule {
	r.ByMonth, r.ByMonthDay, r.BySetPos = slices.Clone(r.ByMonth), slices.Clone(r.ByMonthDay), slices.Clone(r.BySetPos)
	r.ByDay = slices.Clone(r.ByDay)
	return r
}

// text is a rule as it is written, or what it holds.
func text(r api.Rule) string {
	if s := rule.Print(r); s != "" {
		return s
	}
	return fmt.Sprintf("%.300q", fmt.Sprint(r))
}

// stamps is times as they are written.
func stamps(l []int64) string {
	s := make([]string, len(l))
	for i, t := range l {
		s[i] = date.Stamp(t)
	}
	return strings.Join(s, " ")
}

// short is a text that is not too long to be shown.
func short(s string) string {
	if len(s) > 600 {
		return s[:300] + " .. " + s[len(s)-300:]
	}
	return s
}

// isApart asks that two lists share no memory.
func isApart(t *testing.T, what string, a, b []int64) {
	t.Helper()
	if cap(a) > 0 && cap(b) > 0 && unsafe.SliceData(a) == unsafe.SliceData(b) {
		t.Errorf("%s tells the same memory twice", what)
	}
}

// check asks for these occurrences of Times, or this error, and that they are as occurrences are.
func check(t *testing.T, start int64, r api.Rule, from, to int64, most int, want []int64, e api.Errno) {
	t.Helper()
	was := copied(r)
	got, f := recur.Times(start, r, from, to, most)
	what := fmt.Sprintf("Times(%d %s, %s, %d, %d, %d)", start, date.Stamp(start), text(was), from, to, most)
	if f != e || !slices.Equal(got, want) || e != api.OK && got != nil {
		t.Errorf("%s = %s, %d, want %s, %d", what, short(stamps(got)), f, short(stamps(want)), e)
	}
	again, _ := recur.Times(start, r, from, to, most)
	isApart(t, what, got, again)
	if !reflect.DeepEqual(was, r) {
		t.Errorf("%s made of its rule %s", what, text(r))
	}
	for i, one := range got {
		if one < from || one >= to || one < start || i > 0 && one <= got[i-1] || (one-start)%daySecs != 0 {
			t.Errorf("%s = %s: the %d. may not be", what, short(stamps(got)), i)
		}
	}
}

// likeModel holds Times against the model.
func likeModel(t *testing.T, start int64, r api.Rule, from, to int64, most int) {
	t.Helper()
	want, e := modelTimes(start, r, from, to, most)
	check(t, start, r, from, to, most, want, e)
}

// isLast asks for this one of Last, of the model too.
func isLast(t *testing.T, start int64, r api.Rule, want int64, ok bool) {
	t.Helper()
	was := copied(r)
	if got, is := recur.Last(start, r); got != want || is != ok {
		t.Errorf("Last(%d %s, %s) = %s, %v, want %s, %v", start, date.Stamp(start), text(r), date.Stamp(got), is, date.Stamp(want), ok)
	}
	if got, is := modelLast(start, r); got != want || is != ok {
		t.Errorf("the model of Last(%d %s, %s) is %s, %v, want %s, %v", start, date.Stamp(start), text(r), date.Stamp(got), is, date.Stamp(want), ok)
	}
	if !reflect.DeepEqual(was, r) {
		t.Errorf("Last made of %s %s", text(was), text(r))
	}
}

// lastLikeModel holds Last against the model.
func lastLikeModel(t *testing.T, start int64, r api.Rule) {
	t.Helper()
	want, ok := modelLast(start, r)
	isLast(t, start, r, want, ok)
}

// at reads a stamp, or a day as its midnight.
func at(s string) int64 {
	n, e := date.ReadStamp(s)
	if e != api.OK {
		d, f := date.ReadDay(s)
		if f != api.OK {
			panic(s)
		}
		n = d * daySecs
	}
	return n
}

// read reads a rule.
func read(s string) api.Rule {
	r, e := rule.Parse(s)
	if e != api.OK {
		panic(s)
	}
	return r
}

// days reads days with blanks between, each one going on with what the one ahead began with, at start's second of the day.
func days(start int64, s string) []int64 {
	var l []int64
	ahead := ""
	for one := range strings.FieldsSeq(s) {
		ahead = ahead[:max(len(ahead)-len(one), 0)] + one
		l = append(l, at(ahead)+(start-firstTime)%daySecs)
	}
	return l
}

// tells asks for these occurrences of a rule up to a time, of the model too, with as many as may be told, and one less.
func tells(t *testing.T, start, s, to, want string) {
	t.Helper()
	from, until := at(start), int64(math.MaxInt64)
	if to != "" {
		until = at(to)
	}
	tellsList(t, from, read(s), until, days(from, want))
}

// told is what a rule tells from a start on, up to a time, if there is one.
type told struct{ start, rule, to, want string }

// tellAll is tells of each.
func tellAll(t *testing.T, l []told) {
	t.Helper()
	for _, one := range l {
		tells(t, one.start, one.rule, one.to, one.want)
	}
}

// tellsList is tells with what is read.
func tellsList(t *testing.T, start int64, r api.Rule, to int64, want []int64) {
	t.Helper()
	if got, e := modelTimes(start, r, math.MinInt64, to, len(want)); e != api.OK || !slices.Equal(got, want) {
		t.Errorf("the model of %s from %s on is %s, %d, want %s", text(r), date.Stamp(start), short(stamps(got)), e, short(stamps(want)))
	}
	check(t, start, r, math.MinInt64, to, len(want), want, api.OK)
	check(t, start, r, math.MinInt64, to, math.MaxInt, want, api.OK)
	if len(want) > 0 {
		check(t, start, r, math.MinInt64, to, len(want)-1, nil, api.ErrMany)
	}
}

// tooMany asks that a rule is gone through too many periods up to a time, of the model too.
func tooMany(t *testing.T, start int64, r api.Rule, to int64) {
	t.Helper()
	if _, e := modelTimes(start, r, to, to, 0); e != api.ErrMany {
		t.Errorf("the model of %s from %s on up to %d is %d, want %d", text(r), date.Stamp(start), to, e, api.ErrMany)
	}
	check(t, start, r, math.MinInt64, to, math.MaxInt, nil, api.ErrMany)
	check(t, start, r, to, to, 0, nil, api.ErrMany)
}

func newDraw(seed uint64) *rand.Rand { return rand.New(rand.NewPCG(15, seed)) }
