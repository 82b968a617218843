package rule_test

import (
	"fmt"
	"maps"
	"slices"
	"strconv"
	"strings"
	"testing"

	"almanac/api"
	"almanac/value"
)

// TestFreq (P14.1, P14.6): each value in great, small and mixed letters, and others.
func TestFreq(t *testing.T) {
	for name, freq := range freqNames {
		for _, one := range cases(name) {
			parses(t, "FREQ="+one, plain(freq))
			parses(t, "freq="+one, plain(freq))
			parses(t, "INTERVAL=1;FREQ="+one, plain(freq))
		}
		for at := range len(name) {
			fails(t, "FREQ="+name[:at], api.ErrKind)
			fails(t, "FREQ="+name[at+1:], api.ErrKind)
			for b := range 256 {
				likeModel(t, "FREQ="+name[:at]+string([]byte{byte(b)})+name[at+1:])
				likeModel(t, "FREQ="+name[:at]+string([]byte{byte(b)})+name[at:])
			}
		}
	}
	for _, v := range []string{
		"", " ", "HOURLY", "hourly", "MINUTELY", "SECONDLY", "NEVER", "DAY", "WEEK", "MONTH", "YEAR", "DAILYWEEKLY", "DAILY,WEEKLY", "DAILY ", " DAILY", "0", "1", "2", "3", "4", "5", "-1", "FREQ", "MO", "20250101",
		"DA\u0130LY", "da\u0131ly", "WEE\u212aLY", "wee\u212aly", "WE\xcbKLY", "DAILY\x00", "\xffDAILY", strings.Repeat("DAILY", 100000),
	} {
		fails(t, "FREQ="+v, api.ErrKind)
		fails(t, "FREQ="+v+";COUNT=0", api.ErrKind)
		fails(t, "COUNT=1;FREQ="+v, api.ErrKind)
	}
}

// countIn is a daily rule with a number in one of the two parts that count.
func countIn(name string, n int) api.Rule {
	if name == "COUNT" {
		return with(api.FrDaily, func(r *api.Rule) { r.Count = n })
	}
	return with(api.FrDaily, func(r *api.Rule) { r.Interval = n })
}

// TestCounts (P14.1): all numbers of INTERVAL and COUNT, with noughts ahead, and beyond the bounds.
func TestCounts(t *testing.T) {
	for _, name := range []string{"INTERVAL", "COUNT"} {
		for n := range 10000 {
			for long := 1; long <= 7; long++ {
				s := fmt.Sprintf("%0*d", long, n)
				if n >= 1 && n <= 1000 && len(s) <= 4 {
					parses(t, "FREQ=DAILY;"+name+"="+s, countIn(name, n))
				} else {
					fails(t, "FREQ=DAILY;"+name+"="+s, api.ErrForm)
				}
			}
		}
		for _, v := range []string{
			"", "0", "00", "0000", "00000", "1001", "9999", "10000", "00001", "01000", "01001", "99999", "+", "-", "+1", "-1", "+0", "-0", "+1000", "-1000", "--1", "1+", "1-", " 1", "1 ", "1,2", "1,", ",1", ",", "1.0", "1e2", "0x1", "a", "A", "1a", "a1", "1_0", "MO", "1MO",
			"\u0661", "\uff11", "1\x00", "\x001", "1\n", "4294967297", "18446744073709551617", "9223372036854775808", strings.Repeat("0", 17) + "1", strings.Repeat("0", 100000) + "1", strings.Repeat("1", 100000),
		} {
			fails(t, "FREQ=DAILY;"+name+"="+v, api.ErrForm)
			fails(t, name+"="+v+";FREQ=DAILY", api.ErrForm)
		}
	}
	parses(t, "FREQ=DAILY;COUNT=1000;INTERVAL=1000", with(api.FrDaily, func(r *api.Rule) { r.Count, r.Interval = 1000, 1000 }))
	parses(t, "INTERVAL=0007;COUNT=0010;FREQ=DAILY", with(api.FrDaily, func(r *api.Rule) { r.Count, r.Interval = 10, 7 }))
}

// TestUntil (P14.1, P14.6): days, stamps, stamps of UTC, in whatever letters, and what is no time.
func TestUntil(t *testing.T) {
	for s, w := range map[string]api.When{
		"19700101":         {Date: true},
		"20250101":         {Secs: 1735689600, Date: true},
		"00010101":         {Secs: -62135596800, Date: true},
		"99991231":         {Secs: 253402214400, Date: true},
		"19700101T000000":  {},
		"20250101T000000":  {Secs: 1735689600},
		"00010101T000000":  {Secs: -62135596800},
		"99991231T235959":  {Secs: 253402300799},
		"19700101T000000Z": {Utc: true},
		"20250131T110000Z": {Secs: 1738321200, Utc: true},
		"00010101T000000Z": {Secs: -62135596800, Utc: true},
		"99991231T235959Z": {Secs: 253402300799, Utc: true},
	} {
		want := with(api.FrWeekly, func(r *api.Rule) { r.Until, r.HasUntil = w, true })
		for _, one := range cases(s) {
			parses(t, "FREQ=WEEKLY;UNTIL="+one, want)
			parses(t, "until="+one+";freq=weekly", want)
		}
		prints(t, want, "FREQ=WEEKLY;UNTIL="+s)
	}
	for _, v := range []string{
		"", " ", "0", "now", "2025", "20250229", "20251301", "00000101", "20250101Z", "20250101z", "20250101T", "20250101t", "20250101T000000ZZ", "20250101T000000zz", "20250101T240000", "20250101T0000", "20250101T000000+0000", "-20250101", "+20250101", "20250101,20250102",
		"20250101,", ",20250101", "20250101/P1D", "P1D", "20250101 ", " 20250101", "20250101T000000\u017d", "2025-01-01", "20250101\x00", strings.Repeat("2", 100000), "20250101" + strings.Repeat("Z", 100000),
	} {
		fails(t, "FREQ=WEEKLY;UNTIL="+v, api.ErrForm)
		fails(t, "UNTIL="+v+";FREQ=WEEKLY", api.ErrForm)
	}
	for _, s := range []string{"20250101", "20250101T000000", "20250101T000000Z"} {
		for at := range len(s) + 1 {
			for b := range 256 {
				one := string([]byte{byte(b)})
				likeModel(t, "FREQ=DAILY;UNTIL="+s[:at]+one+s[at:])
				if at < len(s) {
					likeModel(t, "FREQ=DAILY;UNTIL="+s[:at]+one+s[at+1:])
				}
			}
		}
	}
}

// listIn is a monthly rule with numbers in one of the three lists of them; BYMONTH beside BYSETPOS.
func listIn(name string, l ...int) (string, api.Rule) {
	switch name {
	case "BYMONTH":
		return "FREQ=MONTHLY;", with(api.FrMonthly, func(r *api.Rule) { r.ByMonth = l })
	case "BYMONTHDAY":
		return "FREQ=MONTHLY;", with(api.FrMonthly, func(r *api.Rule) { r.ByMonthDay = l })
	}
	return "FREQ=MONTHLY;BYMONTH=12;", with(api.FrMonthly, func(r *api.Rule) { r.ByMonth, r.BySetPos = []int{12}, l })
}

// listBounds is the last number of each list of them, and whether it may be below 0.
var listBounds = map[string]struct {
	most     int
	isEither bool
}{"BYMONTH": {12, false}, "BYMONTHDAY": {31, true}, "BYSETPOS": {366, true}}

// TestListNumbers (P14.1): in each list all numbers of few digits with each sign and with noughts ahead: within the bounds and beyond.
func TestListNumbers(t *testing.T) {
	for name, bounds := range listBounds {
		for n := range 1300 {
			for _, sign := range []string{"", "+", "-", "--", "-+", "+-", "++", " "} {
				for long := 1; long <= 6; long++ {
					s := fmt.Sprintf("%s%0*d", sign, long, n)
					signed := n
					if sign == "-" {
						signed = -n
					}
					ahead, want := listIn(name, signed)
					ok := n >= 1 && n <= bounds.most && len(s) <= 4+len(sign) && (sign == "" || bounds.isEither && (sign == "+" || sign == "-"))
					if ok {
						parses(t, ahead+name+"="+s, want)
					} else {
						fails(t, ahead+name+"="+s, api.ErrForm)
					}
				}
			}
		}
		for _, v := range []string{
			"", "0", "00", "+0", "-0", "-0000", "+", "-", "1+", "1-", "+-1", "- 1", "+ 1", " 1", "1 ", "1.", "1.5", "a", "1a", "MO", "1MO", "0x1", "1e0", "\u0661", "1\x00", "1:2", "1/2", "1-2", "1..2", "367", "-367", "9999", "-9999", "10000", "-10000", "4294967297", "-18446744073709551615",
			strings.Repeat("0", 17) + "1", strings.Repeat("0", 100000) + "1", strings.Repeat("1", 100000), strings.Repeat("-", 100000),
		} {
			ahead, _ := listIn(name)
			fails(t, ahead+name+"="+v, api.ErrForm)
			fails(t, ahead+name+"=1,"+v, api.ErrForm)
			fails(t, ahead+name+"="+v+",1", api.ErrForm)
			fails(t, ahead+name+"="+v+";COUNT=3", api.ErrForm)
		}
	}
}

// TestListLong (P14.1): no value, one, 24, 25, and many more, and "," where it may not stand.
func TestListLong(t *testing.T) {
	for name := range listBounds {
		ahead, _ := listIn(name)
		for n := 1; n <= 30; n++ {
			_, want := listIn(name, slices.Repeat([]int{1}, n)...)
			_, other := listIn(name, append(slices.Repeat([]int{2}, n-1), 1)...)
			if n <= 24 {
				parses(t, ahead+name+"="+repeated("1", n), want)
				parses(t, ahead+name+"="+strings.Repeat("2,", n-1)+"1", other)
			} else {
				fails(t, ahead+name+"="+repeated("1", n), api.ErrMany)
				fails(t, ahead+name+"="+repeated("0", n), api.ErrMany)
				fails(t, ahead+name+"="+repeated("", n), api.ErrMany)
			}
		}
		for _, v := range []string{"", ",", ",,", ",1", "1,", "1,,2", ",1,2", "1,2,", ",,1", "1,,", "1, 2", "1 ,2", "1;,2", strings.Repeat("1,", 23), strings.Repeat(",1", 23), strings.Repeat(",", 23)} {
			fails(t, ahead+name+"="+v, api.ErrForm)
		}
		for _, v := range []string{strings.Repeat("1,", 24), strings.Repeat(",1", 24), strings.Repeat(",", 24), strings.Repeat(",", 100000), repeated("1", 100000)} {
			fails(t, ahead+name+"="+v, api.ErrMany)
		}
	}
}

// TestListOrder (P14.1): values in their order, also those that stand twice.
func TestListOrder(t *testing.T) {
	parses(t, "FREQ=YEARLY;BYMONTH=12,1,06,1", with(api.FrYearly, func(r *api.Rule) { r.ByMonth = []int{12, 1, 6, 1} }))
	parses(t, "FREQ=YEARLY;BYMONTHDAY=-1,31,+1,-31,0001", with(api.FrYearly, func(r *api.Rule) { r.ByMonthDay = []int{-1, 31, 1, -31, 1} }))
	parses(t, "FREQ=YEARLY;BYMONTH=1;BYSETPOS=366,-366,+0366,-0001", with(api.FrYearly, func(r *api.Rule) { r.ByMonth, r.BySetPos = []int{1}, []int{366, -366, 366, -1} }))
	parses(t, "FREQ=YEARLY;BYDAY=SU,-1mo,+53Tu,SU,0001We", with(api.FrYearly, func(r *api.Rule) {
		r.ByDay = []api.WDay{{Day: 6}, {N: -1}, {N: 53, Day: 1}, {Day: 6}, {N: 1, Day: 2}}
	}))
	parses(t, "BYSETPOS=1,2;BYDAY=MO,TU;BYMONTHDAY=3,4;BYMONTH=5,6;FREQ=MONTHLY", with(api.FrMonthly, func(r *api.Rule) {
		r.ByMonth, r.ByMonthDay, r.ByDay, r.BySetPos = []int{5, 6}, []int{3, 4}, []api.WDay{{}, {Day: 1}}, []int{1, 2}
	}))
}

// days is a monthly rule of days.
func days(l ...api.WDay) api.Rule { return with(api.FrMonthly, func(r *api.Rule) { r.ByDay = l }) }

// TestByDay (P14.1, P14.6): each day in whatever letters, with numbers at the bounds and beyond, and what is none.
func TestByDay(t *testing.T) {
	for name, day := range dayNames {
		for _, one := range cases(name) {
			parses(t, "FREQ=MONTHLY;BYDAY="+one, days(api.WDay{Day: day}))
			for n := range 60 {
				for _, sign := range []string{"", "+", "-", "--", "+-", " ", "0", "000", "0000", "+000", "-000", "+0000"} {
					number, err := strconv.Atoi(sign + strconv.Itoa(n))
					s := sign + strconv.Itoa(n)
					isShort := len(strings.TrimLeft(s, "+-")) <= 4
					if err == nil && n >= 1 && n <= 53 && isShort {
						parses(t, "FREQ=MONTHLY;BYDAY="+s+one, days(api.WDay{N: number, Day: day}))
						parses(t, "FREQ=MONTHLY;BYDAY=MO,"+s+one, days(api.WDay{}, api.WDay{N: number, Day: day}))
					} else {
						fails(t, "FREQ=MONTHLY;BYDAY="+s+one, api.ErrForm)
						fails(t, "FREQ=MONTHLY;BYDAY=MO,"+s+one, api.ErrForm)
					}
				}
			}
		}
		for _, v := range []string{"+" + name, "-" + name, name + "1", "1 " + name, " " + name, name + " ", "1" + name + "1", name + name, "1" + name + name, "a" + name, "54" + name, "-54" + name, "+54" + name, "0" + name, "-0" + name, "+0" + name, "00001" + name, "9999" + name, "10000" + name, "18446744073709551617" + name, name + "\x00", "\x00" + name} {
			fails(t, "FREQ=MONTHLY;BYDAY="+v, api.ErrForm)
			fails(t, "FREQ=WEEKLY;BYDAY="+v, api.ErrForm)
			fails(t, "BYDAY=TU,"+v+",WE;FREQ=YEARLY", api.ErrForm)
		}
	}
	for _, v := range []string{"", ",", "M", "O", "m", "1", "-1", "+", "-", "1M", "12", "53", "XX", "MON", "MONDAY", "OM", "MU", "MO,", ",MO", "MO,,TU", "MO,1", "1,MO", "MO TU", "MO;TU", "MOTU", "M O", "\u041c\u041e", "\uff2d\uff2f", "S\u016a", "\u017fU", "1\u017fU", "T\u00dc", strings.Repeat("MO", 100000), strings.Repeat("1", 100000) + "MO"} {
		fails(t, "FREQ=MONTHLY;BYDAY="+v, api.ErrForm)
	}
	for n := 20; n <= 28; n++ {
		if n <= 24 {
			parses(t, "FREQ=MONTHLY;BYDAY="+repeated("-2tu", n), days(slices.Repeat([]api.WDay{{N: -2, Day: 1}}, n)...))
		} else {
			fails(t, "FREQ=MONTHLY;BYDAY="+repeated("-2tu", n), api.ErrMany)
			fails(t, "FREQ=MONTHLY;BYDAY="+repeated("", n), api.ErrMany)
		}
	}
}

// TestWkst (P14.1, P14.6): each day, in whatever letters, with a number ahead, and what is none.
func TestWkst(t *testing.T) {
	for name, day := range dayNames {
		want := with(api.FrWeekly, func(r *api.Rule) { r.Wkst = day })
		for _, one := range cases(name) {
			parses(t, "FREQ=WEEKLY;WKST="+one, want)
			parses(t, "wkst="+one+";FREQ=WEEKLY", want)
		}
		for _, v := range []string{"1" + name, "+1" + name, "-1" + name, "0" + name, name + "1", " " + name, name + " ", name + ",", "," + name, name + "," + name, name + name, name[:1], name[1:], "+" + name, "-" + name} {
			fails(t, "FREQ=WEEKLY;WKST="+v, api.ErrForm)
			fails(t, "WKST="+v+";FREQ=WEEKLY", api.ErrForm)
		}
	}
	for _, v := range []string{"", ",", "0", "1", "-1", "7", "XX", "MONDAY", "\u017fU", "\u017fu", strings.Repeat("MO", 100000)} {
		fails(t, "FREQ=WEEKLY;WKST="+v, api.ErrForm)
	}
}

// TestShortValues (P14.1): in each part all values of few pieces.
func TestShortValues(t *testing.T) {
	for _, s := range short(4, "+", "-", "0", "1", "3", "5", "6", ",", "M", "O", "o", "=") {
		for _, name := range names {
			likeModel(t, "BYMONTH=1;FREQ=MONTHLY;"+name+"="+s)
			if name == "BYMONTH" {
				likeModel(t, "FREQ=MONTHLY;"+name+"="+s)
			}
		}
	}
}

// TestWritable (P14.5): all values that there are, of all parts, as they are written.
func TestWritable(t *testing.T) {
	for _, n := range slices.Sorted(maps.Values(all().upTo1000)) {
		parses(t, fmt.Sprintf("FREQ=DAILY;INTERVAL=%d", n), countIn("INTERVAL", n))
		prints(t, countIn("COUNT", n), fmt.Sprintf("FREQ=DAILY;COUNT=%d", n))
	}
	for s, n := range all().eitherTo366 {
		_, r := listIn("BYSETPOS", n)
		prints(t, r, fmt.Sprintf("FREQ=MONTHLY;BYMONTH=12;BYSETPOS=%d", n))
		parses(t, "FREQ=MONTHLY;BYMONTH=12;BYSETPOS="+s, r)
	}
	for s, n := range all().eitherTo31 {
		_, r := listIn("BYMONTHDAY", n)
		prints(t, r, fmt.Sprintf("FREQ=MONTHLY;BYMONTHDAY=%d", n))
		parses(t, "FREQ=MONTHLY;BYMONTHDAY="+s, r)
	}
	for s, d := range all().daysTo53 {
		parses(t, "FREQ=MONTHLY;BYDAY="+s, days(d))
	}
	for n := -40; n <= 40; n++ {
		w := api.When{Secs: int64(n) * 1000000007, Utc: n%2 == 0}
		prints(t, with(api.FrYearly, func(r *api.Rule) { r.Until, r.HasUntil = w, true }), "FREQ=YEARLY;UNTIL="+value.TimeText(w))
	}
}
