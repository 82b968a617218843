package rule_test

import (
	"math"
	"slices"
	"testing"

	"almanac/api"
	"almanac/rule"
	"almanac/value"
)

// edges is numbers within most and beyond it, both ways, and those that only few bits of are looked at in a careless way.
func edges(most int) []int {
	l := []int{0, 1, 2, 255, 256, 257, 1 << 31, 1<<32 + 1, 1 << 62, math.MaxInt64, most - 1, most, most + 1, most + 2}
	for _, n := range slices.Clone(l) {
		l = append(l, -n)
	}
	return append(l, math.MinInt64, math.MinInt64+1)
}

// TestFitZero (P14.2): the zero rule has no frequency.
func TestFitZero(t *testing.T) {
	isFit(t, api.Rule{}, false)
	isFit(t, api.Rule{Interval: 1}, false)
	isFit(t, api.Rule{Freq: api.FrDaily}, false)
	isFit(t, api.Rule{Freq: api.FrDaily, Interval: 1}, true)
}

// TestFitNumbers (P14.2): Freq, Interval, Count and Wkst within and beyond their bounds.
func TestFitNumbers(t *testing.T) {
	for _, n := range edges(4) {
		isFit(t, plain(n), n >= 1 && n <= 4)
	}
	for n := range 10 {
		isFit(t, plain(n), n >= 1 && n <= 4)
	}
	for freq := api.FrDaily; freq < api.NumFrs; freq++ {
		for _, n := range edges(1000) {
			isFit(t, with(freq, func(r *api.Rule) { r.Interval = n }), n >= 1 && n <= 1000)
			isFit(t, with(freq, func(r *api.Rule) { r.Count = n }), n >= 0 && n <= 1000)
		}
		for _, n := range edges(6) {
			isFit(t, with(freq, func(r *api.Rule) { r.Wkst = n }), n >= 0 && n <= 6)
		}
		for n := -2; n <= 9; n++ {
			isFit(t, with(freq, func(r *api.Rule) { r.Wkst = n }), n >= 0 && n <= 6)
		}
	}
}

// TestFitUntil (P14.2): an Until that no text is read as, one without HasUntil, and one beside Count.
func TestFitUntil(t *testing.T) {
	for _, c := range []struct {
		w    api.When
		want bool
	}{
		{api.When{}, true},
		{api.When{Secs: 1}, true},
		{api.When{Secs: -1}, true},
		{api.When{Utc: true}, true},
		{api.When{Date: true}, true},
		{api.When{Secs: 86400, Date: true}, true},
		{api.When{Secs: 253402300799}, true},
		{api.When{Secs: 253402300799, Utc: true}, true},
		{api.When{Secs: 253402214400, Date: true}, true},
		{api.When{Secs: -62135596800}, true},
		{api.When{Secs: -62135596800, Utc: true}, true},
		{api.When{Secs: -62135596800, Date: true}, true},
		{api.When{Utc: true, Date: true}, false},
		{api.When{Secs: 86400, Utc: true, Date: true}, false},
		{api.When{Secs: 1, Date: true}, false},
		{api.When{Secs: 86399, Date: true}, false},
		{api.When{Secs: -1, Date: true}, false},
		{api.When{Secs: 253402300799, Date: true}, false},
		{api.When{Secs: 253402300800}, false},
		{api.When{Secs: 253402300800, Utc: true}, false},
		{api.When{Secs: 253402300800, Date: true}, false},
		{api.When{Secs: -62135596801}, false},
		{api.When{Secs: -62135596801, Utc: true}, false},
		{api.When{Secs: -62135683200, Date: true}, false},
		{api.When{Secs: math.MaxInt64}, false},
		{api.When{Secs: math.MinInt64, Utc: true}, false},
		{api.When{Secs: math.MinInt64, Date: true}, false},
	} {
		for freq := api.FrDaily; freq < api.NumFrs; freq++ {
			isFit(t, with(freq, func(r *api.Rule) { r.Until, r.HasUntil = c.w, true }), c.want)
			isFit(t, with(freq, func(r *api.Rule) { r.Until = c.w }), c.w == api.When{})
			for _, n := range []int{-1, 1, 2, 1000, 1001} {
				isFit(t, with(freq, func(r *api.Rule) { r.Until, r.HasUntil, r.Count = c.w, true, n }), false)
			}
		}
		isFit(t, with(0, func(r *api.Rule) { r.Until, r.HasUntil = c.w, true }), false)
	}
}

// inList sets one of the lists of numbers, beside what it may not be without.
func inList(freq int, name string, l []int) api.Rule {
	return with(freq, func(r *api.Rule) {
		switch name {
		case "BYMONTH":
			r.ByMonth = l
		case "BYMONTHDAY":
			r.ByMonthDay = l
		default:
			r.ByMonth, r.BySetPos = []int{1}, l
		}
	})
}

// TestFitLists (P14.2): each value of each list within its bounds and beyond, at each place, and lists of 24 and 25.
func TestFitLists(t *testing.T) {
	for name, bounds := range listBounds {
		lowest := 1
		if bounds.isEither {
			lowest = -bounds.most
		}
		for freq := api.FrDaily; freq < api.NumFrs; freq++ {
			may := freq != api.FrWeekly || name != "BYMONTHDAY"
			for _, n := range edges(bounds.most) {
				ok := may && n >= lowest && n <= bounds.most && n != 0
				isFit(t, inList(freq, name, []int{n}), ok)
				isFit(t, inList(freq, name, []int{n, 1}), ok)
				isFit(t, inList(freq, name, []int{1, n}), ok)
				isFit(t, inList(freq, name, append(slices.Repeat([]int{1}, 23), n)), ok)
				isFit(t, inList(freq, name, append(slices.Repeat([]int{1}, 24), n)), false)
			}
			for _, n := range []int{0, 1, 23, 24, 25, 26, 48, 10000} {
				isFit(t, inList(freq, name, slices.Repeat([]int{1}, n)), n == 0 || may && n <= 24)
			}
			isFit(t, inList(freq, name, []int{}), true)
		}
	}
}

// TestFitDays (P14.2): each day of the week within its bounds and beyond, N within and beyond, by each frequency.
func TestFitDays(t *testing.T) {
	in := func(freq int, l ...api.WDay) api.Rule { return with(freq, func(r *api.Rule) { r.ByDay = l }) }
	for freq := api.FrDaily; freq < api.NumFrs; freq++ {
		may := freq == api.FrMonthly || freq == api.FrYearly
		for _, day := range append(edges(6), 3, 4, 5) {
			isDay := day >= 0 && day <= 6
			isFit(t, in(freq, api.WDay{Day: day}), isDay)
			for _, n := range edges(53) {
				ok := isDay && (n == 0 || may && n >= -53 && n <= 53)
				isFit(t, in(freq, api.WDay{N: n, Day: day}), ok)
				isFit(t, in(freq, api.WDay{}, api.WDay{N: n, Day: day}), ok)
				isFit(t, in(freq, api.WDay{N: n, Day: day}, api.WDay{Day: 6}), ok)
			}
		}
		for _, n := range []int{0, 1, 24, 25, 10000} {
			isFit(t, in(freq, slices.Repeat([]api.WDay{{Day: 6}}, n)...), n <= 24)
			isFit(t, in(freq, slices.Repeat([]api.WDay{{N: -1, Day: 6}}, n)...), n == 0 || may && n <= 24)
		}
	}
}

// TestFitPlaces (P14.2): BySetPos alone, and with each of the other lists, and more of them.
func TestFitPlaces(t *testing.T) {
	for freq := api.FrDaily; freq < api.NumFrs; freq++ {
		for set := range 8 {
			for _, empty := range []bool{false, true} {
				r := with(freq, func(r *api.Rule) { r.BySetPos = []int{-1, 2} })
				if empty { // lists of no values are as none
					r.ByMonth, r.ByMonthDay, r.ByDay = []int{}, []int{}, []api.WDay{}
				}
				if set&1 != 0 {
					r.ByMonth = []int{1}
				}
				if set&2 != 0 {
					r.ByMonthDay = []int{1}
				}
				if set&4 != 0 {
					r.ByDay = []api.WDay{{}}
				}
				isFit(t, r, set != 0 && (freq != api.FrWeekly || set&2 == 0))
				r.BySetPos = nil
				isFit(t, r, freq != api.FrWeekly || set&2 == 0)
			}
		}
		for _, more := range []api.Rule{{Count: 3}, {Wkst: 6}, {HasUntil: true}, {Interval: 2}} {
			more.Freq, more.BySetPos, more.Interval = freq, []int{1}, max(1, more.Interval)
			isFit(t, more, false)
		}
	}
}

// TestPrint (P14.3): each part alone, all together, and what is not written.
func TestPrint(t *testing.T) {
	prints(t, plain(api.FrDaily), "FREQ=DAILY")
	prints(t, plain(api.FrWeekly), "FREQ=WEEKLY")
	prints(t, plain(api.FrMonthly), "FREQ=MONTHLY")
	prints(t, plain(api.FrYearly), "FREQ=YEARLY")
	until := api.When{Secs: 1735689600, Utc: true}
	for _, c := range []struct {
		set  func(*api.Rule)
		want string
	}{
		{func(r *api.Rule) { r.Interval = 1 }, ""},
		{func(r *api.Rule) { r.Interval = 2 }, ";INTERVAL=2"},
		{func(r *api.Rule) { r.Interval = 1000 }, ";INTERVAL=1000"},
		{func(r *api.Rule) { r.Count = 0 }, ""},
		{func(r *api.Rule) { r.Count = 1 }, ";COUNT=1"},
		{func(r *api.Rule) { r.Count = 1000 }, ";COUNT=1000"},
		{func(r *api.Rule) { r.HasUntil = true }, ";UNTIL=19700101T000000"},
		{func(r *api.Rule) { r.HasUntil, r.Until = true, until }, ";UNTIL=20250101T000000Z"},
		{func(r *api.Rule) { r.HasUntil, r.Until = true, api.When{Secs: 1735689600, Date: true} }, ";UNTIL=20250101"},
		{func(r *api.Rule) { r.HasUntil, r.Until = true, api.When{Secs: 1735689600} }, ";UNTIL=20250101T000000"},
		{func(r *api.Rule) { r.ByMonth = []int{1} }, ";BYMONTH=1"},
		{func(r *api.Rule) { r.ByMonth = []int{12, 2} }, ";BYMONTH=12,2"},
		{func(r *api.Rule) { r.ByMonth = []int{} }, ""},
		{func(r *api.Rule) { r.ByMonthDay = []int{-31, 31, -1, 1} }, ";BYMONTHDAY=-31,31,-1,1"},
		{func(r *api.Rule) { r.ByMonthDay = []int{} }, ""},
		{func(r *api.Rule) { r.ByDay = []api.WDay{{}} }, ";BYDAY=MO"},
		{func(r *api.Rule) { r.ByDay = []api.WDay{{N: 10, Day: 1}} }, ";BYDAY=10TU"},
		{func(r *api.Rule) {
			r.ByDay = []api.WDay{{N: -53, Day: 2}, {Day: 3}, {N: 53, Day: 4}, {N: 1, Day: 5}, {N: -1, Day: 6}}
		}, ";BYDAY=-53WE,TH,53FR,1SA,-1SU"},
		{func(r *api.Rule) { r.ByDay = []api.WDay{} }, ""},
		{func(r *api.Rule) { r.BySetPos = []int{} }, ""},
		{func(r *api.Rule) { r.ByMonth, r.BySetPos = []int{3}, []int{-366, 366} }, ";BYMONTH=3;BYSETPOS=-366,366"},
		{func(r *api.Rule) { r.Wkst = 0 }, ""},
		{func(r *api.Rule) { r.Wkst = 1 }, ";WKST=TU"},
		{func(r *api.Rule) { r.Wkst = 6 }, ";WKST=SU"},
		{func(r *api.Rule) {
			r.Interval, r.Count, r.Wkst, r.BySetPos = 3, 4, 5, []int{8, -9}
			r.ByMonth, r.ByMonthDay, r.ByDay = []int{1, 2}, []int{-3, 30}, []api.WDay{{N: 2, Day: 3}, {Day: 4}}
		}, ";INTERVAL=3;COUNT=4;BYMONTH=1,2;BYMONTHDAY=-3,30;BYDAY=2TH,FR;BYSETPOS=8,-9;WKST=SA"},
		{func(r *api.Rule) {
			r.Interval, r.HasUntil, r.Until, r.Wkst, r.BySetPos = 3, true, until, 5, []int{8, -9}
			r.ByMonth, r.ByMonthDay, r.ByDay = []int{1, 2}, []int{-3, 30}, []api.WDay{{N: 2, Day: 3}, {Day: 4}}
		}, ";INTERVAL=3;UNTIL=20250101T000000Z;BYMONTH=1,2;BYMONTHDAY=-3,30;BYDAY=2TH,FR;BYSETPOS=8,-9;WKST=SA"},
	} {
		prints(t, with(api.FrMonthly, c.set), "FREQ=MONTHLY"+c.want)
		prints(t, with(api.FrYearly, c.set), "FREQ=YEARLY"+c.want)
		prints(t, with(0, c.set), "")
		prints(t, with(api.NumFrs, c.set), "")
	}
}

// TestPrintNone (P14.3): "" of what is not fit.
func TestPrintNone(t *testing.T) {
	for _, set := range []func(*api.Rule){
		func(r *api.Rule) { r.Freq = 0 },
		func(r *api.Rule) { r.Freq = -1 },
		func(r *api.Rule) { r.Freq = 5 },
		func(r *api.Rule) { r.Interval = 0 },
		func(r *api.Rule) { r.Interval = 1001 },
		func(r *api.Rule) { r.Count = -1 },
		func(r *api.Rule) { r.Count = 1001 },
		func(r *api.Rule) { r.Count, r.HasUntil = 1, true },
		func(r *api.Rule) { r.Until.Secs = 1 },
		func(r *api.Rule) { r.Until.Utc = true },
		func(r *api.Rule) { r.Until.Date = true },
		func(r *api.Rule) { r.HasUntil, r.Until.Secs = true, math.MaxInt64 },
		func(r *api.Rule) { r.HasUntil, r.Until.Utc, r.Until.Date = true, true, true },
		func(r *api.Rule) { r.ByMonth = []int{0} },
		func(r *api.Rule) { r.ByMonth = []int{-1} },
		func(r *api.Rule) { r.ByMonth = []int{1, 13} },
		func(r *api.Rule) { r.ByMonthDay = []int{32} },
		func(r *api.Rule) { r.ByMonthDay = []int{-1, 0} },
		func(r *api.Rule) { r.ByDay = []api.WDay{{Day: 7}} },
		func(r *api.Rule) { r.ByDay = []api.WDay{{}, {Day: -1}} },
		func(r *api.Rule) { r.ByDay = []api.WDay{{N: 54}} },
		func(r *api.Rule) { r.BySetPos = []int{1} },
		func(r *api.Rule) { r.ByMonth, r.BySetPos = []int{1}, []int{367} },
		func(r *api.Rule) { r.ByMonth, r.BySetPos = []int{1}, []int{0} },
		func(r *api.Rule) { r.Wkst = -1 },
		func(r *api.Rule) { r.Wkst = 7 },
		func(r *api.Rule) { r.Freq, r.ByMonthDay = api.FrWeekly, []int{1} },
		func(r *api.Rule) { r.Freq, r.ByDay = api.FrWeekly, []api.WDay{{N: 1}} },
		func(r *api.Rule) { r.Freq, r.ByDay = api.FrDaily, []api.WDay{{N: -1}} },
		func(r *api.Rule) { r.ByMonth = slices.Repeat([]int{1}, 25) },
		func(r *api.Rule) { r.ByMonthDay = slices.Repeat([]int{1}, 25) },
		func(r *api.Rule) { r.ByDay = make([]api.WDay, 25) },
		func(r *api.Rule) { r.ByMonth, r.BySetPos = []int{1}, slices.Repeat([]int{1}, 25) },
	} {
		prints(t, with(api.FrMonthly, set), "")
	}
}

// TestPrintSigns (P14.3): numbers stand without + or noughts ahead, in great letters, in the chapter's order, as few parts as may be.
func TestPrintSigns(t *testing.T) {
	for _, c := range [][2]string{
		{"wkst=mo;bymonthday=+01,-01;interval=0001;freq=monthly", "FREQ=MONTHLY;BYMONTHDAY=1,-1"},
		{"wkst=su;bysetpos=+0366,-0010;byday=+01mo,-053Su,Fr;freq=yearly;count=0010;interval=0010", "FREQ=YEARLY;INTERVAL=10;COUNT=10;BYDAY=1MO,-53SU,FR;BYSETPOS=366,-10;WKST=SU"},
		{"bymonth=01,012,0010;until=20250101t000000z;freq=daily;bymonthday=+31", "FREQ=DAILY;UNTIL=20250101T000000Z;BYMONTH=1,12,10;BYMONTHDAY=31"},
		{"WKST=MO;INTERVAL=1;FREQ=DAILY", "FREQ=DAILY"},
	} {
		r, e := rule.Parse(c[0])
		if s := rule.Print(r); e != api.OK || s != c[1] {
			t.Errorf("Parse(%q) is written as %q, %d, want %q", c[0], s, e, c[1])
		}
		parses(t, c[1], r)
		likeModel(t, c[0])
	}
}

// TestUntilText (P14.3): an Until stands as chapter 13 writes it.
func TestUntilText(t *testing.T) {
	for secs := int64(-62135596800); secs <= 253402300799; secs += 86400 * 3653 {
		for _, w := range []api.When{{Secs: secs}, {Secs: secs, Utc: true}, {Secs: secs, Date: true}, {Secs: secs + 86399}} {
			prints(t, with(api.FrDaily, func(r *api.Rule) { r.HasUntil, r.Until = true, w }), "FREQ=DAILY;UNTIL="+value.TimeText(w))
		}
	}
}
