package recur_test

import (
	"math"
	"math/rand/v2"
	"slices"
	"testing"

	"almanac/api"
	"almanac/recur"
	"almanac/rule"
)

// oneOf draws one of a list.
func oneOf[T any](d *rand.Rand, l ...T) T { return l[d.IntN(len(l))] }

// drawList draws some values, mostly few.
func drawList[T any](d *rand.Rand, draw func() T) []T {
	l := make([]T, oneOf(d, 1, 1, 1, 2, 2, 3, 5, 24))
	for i := range l {
		l[i] = draw()
	}
	return l
}

// drawEither draws a number from ahead or from behind.
func drawEither(d *rand.Rand, most int) int {
	return (1 + d.IntN(most)) * oneOf(d, 1, -1)
}

// drawWDay draws a day of the week, with a number where one may be.
func drawWDay(d *rand.Rand, freq int) api.WDay {
	w := api.WDay{Day: d.IntN(7)}
	if freq >= api.FrMonthly && d.IntN(2) == 0 {
		w.N = drawEither(d, oneOf(d, 2, 5, 5, 53))
	}
	return w
}

// drawRule draws a rule that is fit, with neither Count nor Until.
func drawRule(d *rand.Rand) api.Rule {
	for {
		r := api.Rule{Freq: 1 + d.IntN(4), Interval: oneOf(d, 1, 1, 1, 2, 2, 3, 4, 7, 12, 1+d.IntN(1000), 1000)}
		if d.IntN(3) == 0 {
			r.ByMonth = drawList(d, func() int { return 1 + d.IntN(12) })
		}
		if d.IntN(3) == 0 {
			r.ByMonthDay = drawList(d, func() int { return drawEither(d, 31) })
		}
		if d.IntN(2) == 0 {
			r.ByDay = drawList(d, func() api.WDay { return drawWDay(d, r.Freq) })
		}
		if d.IntN(3) == 0 {
			r.BySetPos = drawList(d, func() int { return drawEither(d, oneOf(d, 2, 5, 31, 366)) })
		}
		if d.IntN(2) == 0 {
			r.Wkst = d.IntN(7)
		}
		if rule.Fit(r) {
			return r
		}
	}
}

// drawStart draws a start, often at the ends of months, years, and of all.
func drawStart(d *rand.Rand) int64 {
	day := oneOf(d,
		firstDay+d.Int64N(400), lastDay-d.Int64N(4000), firstDay+d.Int64N(lastDay-firstDay+1), d.Int64N(30000),
		at("20240229")/daySecs, at("20231231")/daySecs, at("20240131")/daySecs, at("18960229")/daySecs)
	return day*daySecs + oneOf[int64](d, 0, 1, 86399, d.Int64N(daySecs))
}

// unitSecs is how long the periods of a rule lie apart at most.
func unitSecs(r api.Rule) int64 {
	return []int64{0, 1, 7, 31, 366}[r.Freq] * int64(r.Interval) * daySecs
}

// drawEnd gives a rule a Count or an Until, or neither.
func drawEnd(d *rand.Rand, r *api.Rule, start int64) {
	switch d.IntN(4) {
	case 0:
		r.Count = 1 + d.IntN(oneOf(d, 3, 20, 1000))
	case 1:
		until := start + d.Int64N(unitSecs(*r)*20) - oneOf[int64](d, 0, daySecs, 2*unitSecs(*r))
		until = max(min(until, lastTime), firstTime)
		r.HasUntil, r.Until.Secs = true, until
		switch d.IntN(4) {
		case 0:
			r.Until.Date, r.Until.Secs = true, until-(until-firstTime)%daySecs
		case 1:
			r.Until.Utc = true
		case 2:
			r.Until.Secs = max(min(until-(until-start)%daySecs+d.Int64N(3)-1, lastTime), firstTime) // beside an occurrence
		}
	}
}

// capped is a time that lies not too many days from another one.
func capped(d *rand.Rand, start, to int64) int64 {
	return min(to, start+oneOf[int64](d, 3000, 6000, 20000)*daySecs)
}

// TestDrawn (P15.1, P15.4): drawn rules in drawn windows, like the model.
func TestDrawn(t *testing.T) {
	d := newDraw(1)
	for range 6000 {
		r, start := drawRule(d), drawStart(d)
		drawEnd(d, &r, start)
		to := capped(d, start, start+d.Int64N(unitSecs(r)*30)-oneOf[int64](d, 0, daySecs))
		from := oneOf[int64](d, math.MinInt64, start, start+1, to-d.Int64N(unitSecs(r)*30), to-daySecs, to)
		all, e := modelTimes(start, r, from, to, math.MaxInt)
		check(t, start, r, from, to, math.MaxInt, all, e)
		if e != api.OK {
			continue
		}
		check(t, start, r, from, to, len(all), all, api.OK)
		if len(all) > 0 {
			check(t, start, r, from, to, oneOf(d, len(all)-1, d.IntN(len(all)), -1), nil, api.ErrMany)
			at := d.IntN(len(all))
			check(t, start, r, all[at], to, len(all)-at, all[at:], api.OK)
			check(t, start, r, from, all[at], at, all[:at], api.OK)
		}
	}
}

// TestDrawnSideBySide (P15.5): windows side by side, drawn.
func TestDrawnSideBySide(t *testing.T) {
	d := newDraw(2)
	for range 3000 {
		r, start := drawRule(d), drawStart(d)
		drawEnd(d, &r, start)
		from := start - d.Int64N(10*daySecs)
		to := capped(d, start, start+d.Int64N(unitSecs(r)*30)+1)
		whole, e := recur.Times(start, r, from, to, math.MaxInt)
		if e != api.OK {
			t.Fatalf("Times(%d, %s, %d, %d) is %d", start, text(r), from, to, e)
		}
		var pieces []int64
		for a := from; a < to; {
			b := min(a+1+d.Int64N(to-from), to)
			if len(whole) > 0 && d.IntN(2) == 0 {
				b = max(min(oneOf(d, whole...)+d.Int64N(2), to), a+1)
			}
			l, e := recur.Times(start, r, a, b, math.MaxInt)
			if e != api.OK {
				t.Errorf("Times(%d, %s, %d, %d) is %d", start, text(r), a, b, e)
			}
			pieces = append(pieces, l...)
			a = b
		}
		if !slices.Equal(pieces, whole) {
			t.Errorf("%s from %d on: pieces %s, the whole %s", text(r), start, short(stamps(pieces)), short(stamps(whole)))
		}
	}
}

// TestDrawnLast (P15.2, P15.6): drawn rules that end, like the model; none of their occurrences is behind the last one, and they are not more than Count.
func TestDrawnLast(t *testing.T) {
	d := newDraw(3)
	for range 400 {
		r, start := drawRule(d), drawStart(d)
		drawEnd(d, &r, start)
		lastLikeModel(t, start, r)
		last, ok := recur.Last(start, r)
		if !ok {
			continue
		}
		all, e := recur.Times(start, r, math.MinInt64, math.MaxInt64, math.MaxInt)
		if e != api.OK || end(all) != last || r.Count > 0 && len(all) > r.Count || all[0] != start {
			t.Errorf("%s from %d on: %d, %s, the last one %d", text(r), start, e, short(stamps(all)), last)
		}
	}
}

// TestDrawnLong (P15.1, P15.2): drawn rules gone through as far as can be, like the model.
func TestDrawnLong(t *testing.T) {
	d := newDraw(4)
	many := 0
	for range 150 {
		r, start := drawRule(d), drawStart(d)
		drawEnd(d, &r, start)
		to := oneOf[int64](d, math.MaxInt64, start+unitSecs(r)*4001, start+daySecs*d.Int64N(1<<20))
		want, e := modelTimes(start, r, math.MinInt64, to, math.MaxInt)
		check(t, start, r, math.MinInt64, to, math.MaxInt, want, e)
		if e == api.ErrMany {
			many++
		}
	}
	if many < 30 {
		t.Errorf("%d with too many periods", many)
	}
}

// FuzzRecur (P15.1 to P15.6): any rule, start and window, like the model.
func FuzzRecur(f *testing.F) {
	for _, s := range []string{"FREQ=DAILY", "FREQ=WEEKLY;INTERVAL=2;BYDAY=MO,SU;WKST=SU", "FREQ=MONTHLY;BYDAY=-1FR;COUNT=3", "FREQ=MONTHLY;BYMONTHDAY=31,-31", "FREQ=YEARLY;BYDAY=53TH;UNTIL=20300101", "FREQ=YEARLY;BYMONTH=2;BYDAY=MO,TU;BYSETPOS=-1,2", "FREQ=DAILY;BYMONTH=2;BYMONTHDAY=30", ""} {
		for _, start := range []int64{0, at("20240229T123456"), firstTime, lastTime, lastTime + 1} {
			f.Add(s, start, start-daySecs, start+400*daySecs, 9)
		}
	}
	f.Fuzz(func(t *testing.T, s string, start, from, to int64, most int) {
		r, _ := rule.Parse(s)
		likeModel(t, start, r, from, to, most)
		lastLikeModel(t, start, r)
		nthLikeModel(t, int(from), int(to), api.WDay{N: most, Day: int(start)})
	})
}
