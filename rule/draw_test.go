package rule_test

import (
	"fmt"
	"math/rand/v2"
	"slices"
	"strings"
	"testing"

	"almanac/api"
	"almanac/rule"
)

// isSame asks whether two are the same, both ways round.
func isSame(t *testing.T, a, b api.Rule, want bool) {
	t.Helper()
	if rule.Same(a, b) != want || rule.Same(b, a) != want {
		t.Errorf("Same(%.300q, %.300q) = %v, the other way round %v, want %v", fmt.Sprint(a), fmt.Sprint(b), rule.Same(a, b), rule.Same(b, a), want)
	}
}

// TestSame (P14.4): rules that differ in one field each, also rules that are not fit.
func TestSame(t *testing.T) {
	base := api.Rule{
		Freq: 3, Interval: 2, Count: 5, HasUntil: true, Until: api.When{Secs: 7}, ByMonth: []int{1, 2}, ByMonthDay: []int{-1, 4}, ByDay: []api.WDay{{N: 1, Day: 2}, {Day: 5}}, BySetPos: []int{3, -3}, Wkst: 4,
	}
	l := []api.Rule{base}
	for _, set := range []func(*api.Rule){
		func(r *api.Rule) { r.Freq = 4 },
		func(r *api.Rule) { r.Freq = -3 },
		func(r *api.Rule) { r.Interval = 3 },
		func(r *api.Rule) { r.Interval = 0 },
		func(r *api.Rule) { r.Count = 0 },
		func(r *api.Rule) { r.Count = -5 },
		func(r *api.Rule) { r.HasUntil = false },
		func(r *api.Rule) { r.Until.Secs = 8 },
		func(r *api.Rule) { r.Until.Utc = true },
		func(r *api.Rule) { r.Until.Date = true },
		func(r *api.Rule) { r.ByMonth = nil },
		func(r *api.Rule) { r.ByMonth = []int{1} },
		func(r *api.Rule) { r.ByMonth = []int{2} },
		func(r *api.Rule) { r.ByMonth = []int{2, 1} },
		func(r *api.Rule) { r.ByMonth = []int{1, 3} },
		func(r *api.Rule) { r.ByMonth = []int{1, 2, 2} },
		func(r *api.Rule) { r.ByMonthDay = nil },
		func(r *api.Rule) { r.ByMonthDay = []int{-1} },
		func(r *api.Rule) { r.ByMonthDay = []int{4, -1} },
		func(r *api.Rule) { r.ByMonthDay = []int{1, 4} },
		func(r *api.Rule) { r.ByMonthDay = []int{-1, 4, 0} },
		func(r *api.Rule) { r.ByDay = nil },
		func(r *api.Rule) { r.ByDay = r.ByDay[:1] },
		func(r *api.Rule) { r.ByDay = []api.WDay{{Day: 5}, {N: 1, Day: 2}} },
		func(r *api.Rule) { r.ByDay = []api.WDay{{N: 2, Day: 2}, {Day: 5}} },
		func(r *api.Rule) { r.ByDay = []api.WDay{{N: 1, Day: 2}, {Day: 6}} },
		func(r *api.Rule) { r.ByDay = []api.WDay{{N: 1, Day: 2}, {Day: 5}, {}} },
		func(r *api.Rule) { r.BySetPos = nil },
		func(r *api.Rule) { r.BySetPos = []int{3} },
		func(r *api.Rule) { r.BySetPos = []int{-3, 3} },
		func(r *api.Rule) { r.BySetPos = []int{3, 3} },
		func(r *api.Rule) { r.BySetPos = []int{3, -3, 0} },
		func(r *api.Rule) { r.Wkst = 0 },
		func(r *api.Rule) { r.Wkst = -4 },
	} {
		one := copied(base)
		set(&one)
		l = append(l, one)
	}
	l = append(l, api.Rule{}, plain(1))
	for i, a := range l {
		for k, b := range l {
			isSame(t, a, b, i == k)
			isSame(t, a, copied(b), i == k)
		}
	}
}

// TestSameEmpty (P14.4): a list that is none and an empty one are the same.
func TestSameEmpty(t *testing.T) {
	for _, base := range []api.Rule{{}, plain(3), with(3, func(r *api.Rule) { r.Count = 3 })} {
		full := base
		full.ByMonth, full.ByMonthDay, full.ByDay, full.BySetPos = []int{}, []int{}, []api.WDay{}, []int{}
		isSame(t, base, full, true)
		for _, set := range []func(*api.Rule){
			func(r *api.Rule) { r.ByMonth = []int{0} },
			func(r *api.Rule) { r.ByMonthDay = []int{0} },
			func(r *api.Rule) { r.ByDay = []api.WDay{{}} },
			func(r *api.Rule) { r.BySetPos = []int{0} },
		} {
			other := full
			set(&other)
			isSame(t, base, other, false)
			isSame(t, full, other, false)
		}
	}
}

// drawnList is a list of drawn values, none in half of all.
func drawnList[T any](draw *rand.Rand, one func() T) []T {
	var l []T
	if draw.IntN(2) == 0 {
		for range 1 + draw.IntN(24)>>draw.IntN(5) {
			l = append(l, one())
		}
	}
	return l
}

// either is a number from 1 to most, or below 0 as far.
func either(draw *rand.Rand, most int) int {
	return (1 + draw.IntN(most)) * (1 - 2*draw.IntN(2))
}

// drawn is a fit rule.
func drawn(draw *rand.Rand) api.Rule {
	r := api.Rule{Freq: 1 + draw.IntN(4), Interval: 1, Wkst: draw.IntN(7) * draw.IntN(2)}
	if draw.IntN(2) == 0 {
		r.Interval = 1 + draw.IntN(1000)>>draw.IntN(10)
	}
	switch draw.IntN(3) {
	case 0:
		r.Count = 1 + draw.IntN(1000)>>draw.IntN(10)
	case 1:
		r.HasUntil, r.Until = true, api.When{Secs: -62135596800 + draw.Int64N(253402300799+62135596800+1), Utc: draw.IntN(2) == 0}
		if draw.IntN(3) == 0 {
			r.Until = api.When{Secs: r.Until.Secs / 86400 * 86400, Date: true}
		}
	}
	r.ByMonth = drawnList(draw, func() int { return 1 + draw.IntN(12) })
	r.ByDay = drawnList(draw, func() api.WDay {
		d := api.WDay{Day: draw.IntN(7)}
		if r.Freq > api.FrWeekly && draw.IntN(2) == 0 {
			d.N = either(draw, 53)
		}
		return d
	})
	if r.Freq != api.FrWeekly {
		r.ByMonthDay = drawnList(draw, func() int { return either(draw, 31) })
	}
	if len(r.ByMonth)+len(r.ByMonthDay)+len(r.ByDay) > 0 {
		r.BySetPos = drawnList(draw, func() int { return either(draw, 366) })
	}
	return r
}

// loosely is a rule's text with its parts in another order, and numbers with noughts, and a + where one may stand.
func loosely(draw *rand.Rand, s string) string {
	l := strings.Split(s, ";")
	if !strings.Contains(s, "INTERVAL=") && draw.IntN(2) == 0 {
		l = append(l, "INTERVAL=1")
	}
	if !strings.Contains(s, "WKST=") && draw.IntN(2) == 0 {
		l = append(l, "WKST=MO")
	}
	draw.Shuffle(len(l), func(i, k int) { l[i], l[k] = l[k], l[i] })
	for i, part := range l {
		name, v, _ := strings.Cut(part, "=")
		if name != "UNTIL" {
			l[i] = name + "=" + looseValues(draw, v, strings.HasPrefix(name, "BY") && name != "BYMONTH")
		}
	}
	b := []byte(strings.Join(l, ";"))
	for i := range b {
		if b[i] >= 'A' && b[i] <= 'Z' && draw.IntN(2) == 0 {
			b[i] += 'a' - 'A'
		}
	}
	return string(b)
}

// looseValues is a part's values, their numbers with some noughts ahead, up to four digits, and with a +, if they may have one.
func looseValues(draw *rand.Rand, v string, isSigned bool) string {
	l := strings.Split(v, ",")
	for i, one := range l {
		size := strings.TrimPrefix(one, "-")
		digits := strings.TrimRight(size, "MOTUWEHFRSA")
		if digits == "" || strings.Trim(digits, "0123456789") != "" {
			continue
		}
		sign := one[:len(one)-len(size)]
		if sign == "" && isSigned && draw.IntN(2) == 0 {
			sign = "+"
		}
		l[i] = sign + strings.Repeat("0", draw.IntN(5-len(digits))) + size
	}
	return strings.Join(l, ",")
}

// TestThereAndBack (P14.5, P14.6): drawn rules are written and read; their parts in any order and in whatever letters are the same rule.
func TestThereAndBack(t *testing.T) {
	for seed := range uint64(20000) {
		draw := newDraw(seed)
		r := drawn(draw)
		isFit(t, r, true)
		s := rule.Print(r)
		parses(t, s, r)
		isSame(t, r, copied(r), true)
		for range 3 {
			one := loosely(draw, s)
			parses(t, one, r)
			if got, _ := rule.Parse(one); !rule.Same(got, r) || rule.Print(got) != s {
				t.Fatalf("%q is read as %v, not as %q", one, got, s)
			}
		}
		if t.Failed() {
			t.Fatal(seed)
		}
	}
}

// TestOrders (P14.6): all orders of some parts.
func TestOrders(t *testing.T) {
	parts := []string{"freq=yearly", "INTERVAL=2", "BYMONTH=3,1", "byday=-1Su,Mo", "BYSETPOS=1", "Until=20250101t120000z", "wkst=SU"}
	want := api.Rule{
		Freq: api.FrYearly, Interval: 2, HasUntil: true, Until: api.When{Secs: 1735732800, Utc: true}, ByMonth: []int{3, 1}, ByDay: []api.WDay{{N: -1, Day: 6}, {}}, BySetPos: []int{1}, Wkst: 6,
	}
	var all func(l []string, from int)
	all = func(l []string, from int) {
		if from == len(l) {
			parses(t, strings.Join(l, ";"), want)
			return
		}
		for i := from; i < len(l); i++ {
			l[from], l[i] = l[i], l[from]
			all(l, from+1)
			l[from], l[i] = l[i], l[from]
		}
	}
	all(parts, 0)
}

// TestDrawnTexts (P14.1): rules' texts with something changed in them.
func TestDrawnTexts(t *testing.T) {
	pieces := append(slices.Clone(names), ";", ";", "=", "=", ",", ",", "+", "-", "0", "1", "9", "MO", "su", "T", "Z", "t", "z", " ", "\x00", "\xff", "\u017f", "DAILY", "weekly", "COUNT=1", "UNTIL=20250101", "BYSETPOS=1", "FREQ=WEEKLY", "BYDAY=1MO", "BYMONTHDAY=1")
	for seed := range uint64(60000) {
		draw := newDraw(1<<32 + seed)
		s := loosely(draw, rule.Print(drawn(draw)))
		for range 1 + draw.IntN(3) {
			from := draw.IntN(len(s) + 1)
			to := min(len(s), from+draw.IntN(4)*draw.IntN(3))
			one := ""
			if draw.IntN(4) > 0 {
				one = pieces[draw.IntN(len(pieces))]
			}
			s = s[:from] + one + s[to:]
		}
		likeModel(t, s)
		if t.Failed() {
			t.Fatal(seed)
		}
	}
}

// TestDrawnFit (P14.2, P14.3): rules with something in them that may not be.
func TestDrawnFit(t *testing.T) {
	for seed := range uint64(40000) {
		draw := newDraw(1<<33 + seed)
		r := drawn(draw)
		number := func() int { return int(int64(draw.Uint64()) >> draw.IntN(64)) }
		for range 1 + draw.IntN(2) {
			switch draw.IntN(12) {
			case 0:
				r.Freq = draw.IntN(7) - 1
			case 1:
				r.Interval = number()
			case 2:
				r.Count = number()
			case 3:
				r.HasUntil = !r.HasUntil
			case 4:
				r.Until.Secs = int64(number())
			case 5:
				r.Until.Utc = !r.Until.Utc
			case 6:
				r.Until.Date = !r.Until.Date
			case 7:
				r.ByMonth = append(r.ByMonth, number())
			case 8:
				r.ByMonthDay = append(r.ByMonthDay, number())
			case 9:
				r.ByDay = append(r.ByDay, api.WDay{N: number() * draw.IntN(2), Day: number()})
			case 10:
				r.BySetPos = append(r.BySetPos, number())
			case 11:
				r.Wkst = number()
			}
		}
		isFit(t, r, modelFit(r))
		if t.Failed() {
			t.Fatal(seed)
		}
	}
}

// FuzzRule: any text at all, and rules of any numbers.
func FuzzRule(f *testing.F) {
	for _, s := range []string{"", ";", "FREQ=DAILY", "FREQ=MONTHLY;BYDAY=-1FR;COUNT=3", "freq=yearly;bymonth=1,2;bymonthday=+1,-1;byday=1mo,SU;bysetpos=366;wkst=su;interval=2;until=20250101t000000z", "FREQ=WEEKLY;BYDAY=1MO", "COUNT=3;UNTIL=20250101;FREQ=DAILY"} {
		f.Add(s, 1, 1, 0, int64(0), 1, 0)
	}
	f.Add("BYMONTH="+repeated("1", 25), 4, 1000, 1000, int64(-1), -53, 6)
	f.Fuzz(func(t *testing.T, s string, freq, interval, count int, secs int64, n, day int) {
		likeModel(t, s)
		r := api.Rule{Freq: freq, Interval: interval, Count: count, Wkst: day, ByMonth: []int{n}}
		isFit(t, r, modelFit(r))
		r = with(freq, func(r *api.Rule) { r.Count, r.ByDay = count, []api.WDay{{N: n, Day: day}} })
		isFit(t, r, modelFit(r))
		r.ByMonthDay, r.BySetPos = []int{n}, []int{n, interval}
		isFit(t, r, modelFit(r))
		r = with(freq, func(r *api.Rule) { r.HasUntil, r.Until = count == 0, api.When{Secs: secs, Utc: n < 0, Date: day < 0} })
		isFit(t, r, modelFit(r))
	})
}
