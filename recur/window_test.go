package recur_test

import (
	"math"
	"slices"
	"testing"

	"almanac/api"
	"almanac/recur"
)

// plain is a rule by days, otherwise as one likes.
func plain(change func(*api.Rule)) api.Rule {
	r := api.Rule{Freq: api.FrDaily, Interval: 1}
	change(&r)
	return r
}

// unfit is rules, each wrong in one way.
func unfit() []api.Rule {
	l := []api.Rule{{}, {Freq: api.FrDaily}, {Interval: 1}}
	for _, change := range []func(*api.Rule){
		func(r *api.Rule) { r.Freq = 5 },
		func(r *api.Rule) { r.Freq = -1 },
		func(r *api.Rule) { r.Freq = math.MaxInt },
		func(r *api.Rule) { r.Freq = math.MinInt },
		func(r *api.Rule) { r.Interval = -1 },
		func(r *api.Rule) { r.Interval = 1001 },
		func(r *api.Rule) { r.Interval = math.MinInt },
		func(r *api.Rule) { r.Count = -1 },
		func(r *api.Rule) { r.Count = 1001 },
		func(r *api.Rule) { r.Count, r.HasUntil = 1, true },
		func(r *api.Rule) { r.Until.Secs = 1 },
		func(r *api.Rule) { r.Until.Date = true },
		func(r *api.Rule) { r.HasUntil, r.Until.Secs = true, lastTime+1 },
		func(r *api.Rule) { r.HasUntil, r.Until.Secs = true, math.MinInt64 },
		func(r *api.Rule) { r.HasUntil, r.Until = true, api.When{Secs: 1, Date: true} },
		func(r *api.Rule) { r.HasUntil, r.Until = true, api.When{Utc: true, Date: true} },
		func(r *api.Rule) { r.ByMonth = []int{0} },
		func(r *api.Rule) { r.ByMonth = []int{1, 13} },
		func(r *api.Rule) { r.ByMonth = make([]int, 25) },
		func(r *api.Rule) { r.ByMonthDay = []int{0} },
		func(r *api.Rule) { r.ByMonthDay = []int{1, -32} },
		func(r *api.Rule) { r.ByMonthDay = slices.Repeat([]int{1}, 25) },
		func(r *api.Rule) { r.ByDay = []api.WDay{{Day: 7}} },
		func(r *api.Rule) { r.ByDay = []api.WDay{{}, {Day: -1}} },
		func(r *api.Rule) { r.ByDay = []api.WDay{{N: 1}} },
		func(r *api.Rule) { r.ByDay = make([]api.WDay, 25) },
		func(r *api.Rule) { r.Freq, r.ByDay = api.FrWeekly, []api.WDay{{N: -1}} },
		func(r *api.Rule) { r.Freq, r.ByDay = api.FrMonthly, []api.WDay{{N: 54}} },
		func(r *api.Rule) { r.Freq, r.ByDay = api.FrYearly, []api.WDay{{N: math.MinInt}} },
		func(r *api.Rule) { r.Freq, r.ByMonthDay = api.FrWeekly, []int{1} },
		func(r *api.Rule) { r.BySetPos = []int{1} },
		func(r *api.Rule) { r.ByMonth, r.BySetPos = []int{1}, []int{0} },
		func(r *api.Rule) { r.ByMonth, r.BySetPos = []int{1}, []int{-367} },
		func(r *api.Rule) { r.ByMonth, r.BySetPos = []int{1}, slices.Repeat([]int{1}, 25) },
		func(r *api.Rule) { r.Wkst = 7 },
		func(r *api.Rule) { r.Wkst = -1 },
	} {
		l = append(l, plain(change))
	}
	return l
}

// TestStart (P15.1, P15.2): starts below the first time, at it, and beyond both ends; that is told ahead of a rule that is not fit.
func TestStart(t *testing.T) {
	rules := append(unfit(), plain(func(r *api.Rule) { r.Count = 2 }), plain(func(r *api.Rule) { r.HasUntil, r.Until.Secs = true, lastTime }))
	for _, start := range []int64{math.MinInt64, math.MinInt64 + 1, firstTime - daySecs, firstTime - 1, lastTime + 1, lastTime + daySecs, math.MaxInt64 - 1, math.MaxInt64} {
		for _, r := range rules {
			for _, most := range []int{math.MinInt, 0, math.MaxInt} {
				check(t, start, r, math.MinInt64, math.MaxInt64, most, nil, api.ErrNumber)
				check(t, start, r, 0, 0, most, nil, api.ErrNumber)
			}
			isLast(t, start, r, 0, false)
		}
	}
	two := plain(func(r *api.Rule) { r.Count = 2 })
	tellsList(t, firstTime, two, math.MaxInt64, []int64{firstTime, firstTime + daySecs})
	tellsList(t, -1, two, math.MaxInt64, []int64{-1, daySecs - 1})
	tellsList(t, 0, two, math.MaxInt64, []int64{0, daySecs})
	tellsList(t, lastTime-daySecs, two, math.MaxInt64, []int64{lastTime - daySecs, lastTime})
	tellsList(t, lastTime-daySecs+1, two, math.MaxInt64, []int64{lastTime - daySecs + 1})
	tellsList(t, lastTime, two, math.MaxInt64, []int64{lastTime})
	isLast(t, firstTime, two, firstTime+daySecs, true)
	isLast(t, lastTime, two, lastTime, true)
}

// TestUnfit (P15.1, P15.2): each way in which a rule is not fit, whatever else is asked.
func TestUnfit(t *testing.T) {
	for _, r := range unfit() {
		for _, start := range []int64{firstTime, 0, lastTime} {
			for _, most := range []int{math.MinInt, -1, 0, 9, math.MaxInt} {
				check(t, start, r, math.MinInt64, math.MaxInt64, most, nil, api.ErrState)
				check(t, start, r, 9, 0, most, nil, api.ErrState)
			}
			isLast(t, start, r, 0, false)
		}
	}
}

// bounds is times at which windows may begin and end: beside each of some, and beside all ends.
func bounds(l []int64) []int64 {
	all := []int64{math.MinInt64, math.MinInt64 + 1, firstTime - 1, firstTime, firstTime + 1, 0, lastTime, lastTime + 1, math.MaxInt64 - 1, math.MaxInt64}
	for _, one := range l {
		all = append(all, one-daySecs, one-1, one, one+1)
	}
	slices.Sort(all)
	return slices.Compact(all)
}

// TestWindow (P15.1, P15.4): each window from and up to each bound that matters, also an empty one and one from behind its end.
func TestWindow(t *testing.T) {
	for _, one := range []struct{ start, rule, want string }{
		{"20250101T120000", "FREQ=DAILY;COUNT=5", "20250101 02 03 04 05"},
		{"20250101T120000", "FREQ=DAILY;UNTIL=20250103", "20250101 02 03"},
		{"20250101T120000", "FREQ=DAILY;COUNT=1", "20250101"},
		{"20250101T120000", "FREQ=WEEKLY;BYDAY=MO,FR;COUNT=4", "20250101 03 06 10"},
		{"20250131T235959", "FREQ=MONTHLY;COUNT=3", "20250131 0331 0531"},
		{"20250131T000000", "FREQ=MONTHLY;COUNT=3;BYMONTHDAY=-1", "20250131 0228 0331"},
		{"99970101T000000", "FREQ=YEARLY", "99970101 99980101 99990101"},
		{"99971231T235959", "FREQ=YEARLY", "99971231 99981231 99991231"},
		{"99991230T235959", "FREQ=DAILY", "99991230 31"},
		{"00010101T000000", "FREQ=DAILY;COUNT=3", "00010101 02 03"},
	} {
		start, r := at(one.start), read(one.rule)
		all := days(start, one.want)
		for _, from := range bounds(all) {
			for _, to := range bounds(all) {
				var want []int64
				for _, t := range all {
					if t >= from && t < to {
						want = append(want, t)
					}
				}
				check(t, start, r, from, to, len(want), want, api.OK)
			}
		}
	}
}

// TestMost (P15.1): as many as may be told, one less, none and below none.
func TestMost(t *testing.T) {
	start, r := at("20250101T120000"), read("FREQ=DAILY;COUNT=5")
	all := days(start, "20250101 02 03 04 05")
	for from := range 6 {
		for to := from; to <= 5; to++ {
			want := all[from:to]
			begin, end := start+int64(from)*daySecs, start+int64(to)*daySecs
			for _, most := range []int{math.MinInt, math.MinInt + 1, -5, -1, 0, 1, 2, 3, 4, 5, 6, api.MaxTimes, math.MaxInt - 1, math.MaxInt} {
				if len(want) > 0 && most < len(want) {
					check(t, start, r, begin, end, most, nil, api.ErrMany)
				} else {
					check(t, start, r, begin, end, most, want, api.OK)
				}
			}
		}
	}
	check(t, start, r, end(all)+1, math.MaxInt64, math.MinInt, nil, api.OK)
	check(t, start, r, math.MaxInt64, math.MinInt64, math.MinInt, nil, api.OK)
	endless := read("FREQ=DAILY")
	check(t, start, endless, start, start+400*daySecs, api.MaxTimes, daily(start, 400), api.OK)
	check(t, start, endless, start, start+400*daySecs+1, api.MaxTimes, nil, api.ErrMany)
	check(t, start, endless, start+1, start+400*daySecs+1, api.MaxTimes, daily(start+daySecs, 400), api.OK)
	check(t, start, endless, start, math.MaxInt64, api.MaxTimes, nil, api.ErrMany)
}

// end is the last one of a list.
func end(l []int64) int64 { return l[len(l)-1] }

// daily is so many times, a day apart.
func daily(start int64, n int) []int64 {
	var l []int64
	for i := range n {
		l = append(l, start+int64(i)*daySecs)
	}
	return l
}

// TestDaily (P15.6): one each day, from ahead of 1970 too, at any second of the day.
func TestDaily(t *testing.T) {
	for _, start := range []int64{firstTime, firstTime + 86399, -daySecs - 1, -daySecs, -1, 0, 1, 86399, at("20240228T123456")} {
		for _, n := range []int{1, 2, 366, 1000} {
			r := plain(func(r *api.Rule) { r.Count = n })
			tellsList(t, start, r, math.MaxInt64, daily(start, n))
			isLast(t, start, r, start+int64(n-1)*daySecs, true)
			tellsList(t, start, read("FREQ=DAILY"), start+int64(n)*daySecs, daily(start, n))
		}
	}
}

// TestSideBySide (P15.5): windows that begin where others end.
func TestSideBySide(t *testing.T) {
	for _, s := range []string{"FREQ=DAILY;BYDAY=MO,WE,FR", "FREQ=WEEKLY;INTERVAL=2;BYDAY=SU,MO,TH", "FREQ=MONTHLY;BYDAY=-1FR,2TU", "FREQ=YEARLY;BYMONTHDAY=31,-31", "FREQ=DAILY;COUNT=100", "FREQ=DAILY;UNTIL=20250401T090000"} {
		r, start := read(s), at("20250101T090000")
		from, to := start-3*daySecs, start+200*daySecs
		whole, e := recur.Times(start, r, from, to, math.MaxInt)
		if e != api.OK || len(whole) < 5 {
			t.Fatalf("%s: %d, %d", s, len(whole), e)
		}
		for _, long := range []int64{daySecs / 2, daySecs, daySecs + 1, 7 * daySecs, 31*daySecs - 1} {
			var pieces []int64
			for a := from; a < to; a += long {
				l, e := recur.Times(start, r, a, min(a+long, to), math.MaxInt)
				if e != api.OK {
					t.Errorf("%s from %d on: %d", s, a, e)
				}
				pieces = append(pieces, l...)
			}
			if !slices.Equal(pieces, whole) {
				t.Errorf("%s, %d seconds each: %s, the whole %s", s, long, short(stamps(pieces)), short(stamps(whole)))
			}
		}
	}
}
