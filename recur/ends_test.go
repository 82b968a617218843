package recur_test

import (
	"fmt"
	"math"
	"testing"

	"almanac/api"
)

// lastOf asks for the last of a rule's occurrences, that Times tells it, and none behind it.
func lastOf(t *testing.T, start, s, want string) {
	t.Helper()
	from, r := at(start), read(s)
	last := end(days(from, want))
	isLast(t, from, r, last, true)
	check(t, from, r, last, math.MaxInt64, 1, []int64{last}, api.OK)
	check(t, from, r, last+1, math.MaxInt64, 0, nil, api.OK)
	likeModel(t, from, r, math.MinInt64, math.MaxInt64, math.MaxInt)
}

// TestCount (P15.1, P15.2, P15.6): a Count that ends ahead of a window, in it and behind it; start is counted.
func TestCount(t *testing.T) {
	start := at("20250101T120000")
	from, to := at("20250110"), at("20250120")
	for n := 1; n <= 30; n++ {
		r := plain(func(r *api.Rule) { r.Count = n })
		told := daily(start, n)
		want := told[min(n, 9):min(n, 19)]
		check(t, start, r, from, to, len(want), want, api.OK)
		isLast(t, start, r, end(told), true)
	}
	for _, freq := range []string{"DAILY", "WEEKLY", "MONTHLY", "YEARLY"} {
		for _, lists := range []string{"", ";BYMONTH=1", ";BYMONTH=3", ";BYDAY=WE", ";BYDAY=SU"} {
			s := "FREQ=" + freq + lists
			tells(t, "20250101T120000", s+";COUNT=1", "", "20250101")
			lastOf(t, "20250101T120000", s+";COUNT=1", "20250101")
		}
	}
	for _, one := range []struct{ start, rule, want string }{
		{"20250101T120000", "FREQ=DAILY;COUNT=1000", "20270927"},
		{"20250101T120000", "FREQ=WEEKLY;COUNT=3;BYDAY=MO,TU,WE", "20250107"},
		{"20250101T120000", "FREQ=WEEKLY;COUNT=4;BYDAY=MO,TU,WE", "20250108"},
		{"20250101T120000", "FREQ=MONTHLY;COUNT=2;BYMONTHDAY=1,2,3", "20250102"},
		{"20250105T120000", "FREQ=MONTHLY;COUNT=2;BYMONTHDAY=1,2,3", "20250201"},
		{"20250105T120000", "FREQ=YEARLY;COUNT=3;BYMONTH=1;BYDAY=1SU,-1SU", "20260104"},
	} {
		lastOf(t, one.start, one.rule, one.want)
	}
}

// TestUntil (P15.1, P15.2): ahead of start, at it, a second ahead of an occurrence, at it and behind it; as a day, a stamp and one of UTC.
func TestUntil(t *testing.T) {
	const start = "20250101T120000"
	for _, one := range []struct{ until, want string }{
		{"00010101T000000", "20250101"}, {"00010101", "20250101"}, {"20241231", "20250101"}, {"20250101T000000", "20250101"},
		{"20250101T115959", "20250101"}, {"20250101T120000", "20250101"}, {"20250101T120001", "20250101"}, {"20250101", "20250101"},
		{"20250102T000000", "20250101"}, {"20250102T115959", "20250101"}, {"20250102T120000", "20250101 02"}, {"20250102T120001", "20250101 02"}, {"20250102", "20250101 02"},
		{"20250103T000000", "20250101 02"}, {"20250103T115959", "20250101 02"}, {"20250103T120000", "20250101 02 03"}, {"20250103", "20250101 02 03"},
	} {
		for _, mark := range []string{"", "Z"} {
			until := one.until
			if len(until) > len("YYYYMMDD") {
				until += mark
			}
			for _, s := range []string{"FREQ=DAILY;UNTIL=", "FREQ=DAILY;BYDAY=MO,TU,WE,TH,FR,SA,SU;UNTIL=", "FREQ=WEEKLY;BYDAY=MO,TU,WE,TH,FR,SA,SU;UNTIL=", "FREQ=MONTHLY;BYDAY=MO,TU,WE,TH,FR,SA,SU;UNTIL=", "FREQ=YEARLY;BYMONTHDAY=1,2,3,4;UNTIL="} {
				tells(t, start, s+until, "", one.want)
				lastOf(t, start, s+until, one.want)
			}
		}
	}
	tells(t, "20250101T000000", "FREQ=DAILY;UNTIL=20250102", "", "20250101 02")
	tells(t, "20250101T235959", "FREQ=DAILY;UNTIL=20250102", "", "20250101 02")
	tells(t, "20250101T000000", "FREQ=DAILY;UNTIL=20250103T000000", "", "20250101 02 03")
	tells(t, "99991230T235959", "FREQ=DAILY;UNTIL=99991231", "", "99991230 31")
	tells(t, "99991230T235959", "FREQ=DAILY;UNTIL=99991231T235958", "", "99991230")
	tells(t, "19691230T235959", "FREQ=DAILY;UNTIL=19691231", "", "19691230 31")
	tells(t, "20250131T120000", "FREQ=MONTHLY;UNTIL=20250330", "", "20250131")
	tells(t, "20250131T120000", "FREQ=YEARLY;BYDAY=FR;UNTIL=20250207", "", "20250131 0207")
}

// TestFirstYear (P15.1): weeks that begin ahead of the first day (a Monday) have those of their days alone that are.
func TestFirstYear(t *testing.T) {
	const all = "FREQ=WEEKLY;BYDAY=MO,TU,WE,TH,FR,SA,SU"
	tellAll(t, []told{
		{"00010101T090000", "FREQ=DAILY", "00010104", "00010101 02 03"},
		{"00010101T090000", "FREQ=WEEKLY", "00010116", "00010101 08 15"},
		{"00010101T090000", "FREQ=MONTHLY", "00010302", "00010101 0201 0301"},
		{"00010101T090000", "FREQ=YEARLY", "00040101", "00010101 00020101 00030101"},
		{"00010103T090000", all + ";WKST=SU", "00010106", "00010103 04 05"},
		{"00010103T090000", all + ";INTERVAL=2;WKST=SU", "00010117", "00010103 04 05 06 14 15 16"},
		{"00010103T090000", all + ";INTERVAL=2;WKST=MO", "00010117", "00010103 04 05 06 07 15 16"},
		{"00010103T090000", all + ";INTERVAL=2;WKST=TU", "00010117", "00010103 04 05 06 07 08 16"},
		{"00010101T090000", all + ";INTERVAL=2;WKST=TU", "00010117", "00010101 09 10 11 12 13 14 15"},
		{"00010101T090000", all + ";BYSETPOS=1;WKST=SU", "00010115", "00010101 07 14"},
		{"00010101T090000", all + ";BYSETPOS=2;WKST=SU", "00010115", "00010101 02 08"},
		{"00010101T090000", all + ";BYSETPOS=2;WKST=TU", "00010111", "00010101 03 10"},
		{"00010101T090000", all + ";BYSETPOS=6,-6;WKST=SU", "00010112", "00010101 06 08"},
		{"00010101T090000", all + ";BYSETPOS=7,-7;WKST=SU", "00010115", "00010101 07 13 14"},
		{"00010101T090000", "FREQ=WEEKLY;BYDAY=SU,MO;WKST=SU", "00010114", "00010101 07 08"},
	})
	for _, start := range []int64{firstTime, firstTime + 1, firstTime + 86399, firstTime + 3*daySecs} {
		for wkst := range 7 {
			for _, pos := range []int{1, 2, 5, 7, -1, -2, -5, -7} {
				r := read(all)
				r.Wkst, r.BySetPos = wkst, []int{pos}
				likeModel(t, start, r, math.MinInt64, firstTime+30*daySecs, math.MaxInt)
				check(t, start, r, math.MinInt64, math.MinInt64, 0, nil, api.OK)
				check(t, start, r, math.MinInt64, firstTime, 0, nil, api.OK)
			}
		}
	}
}

// TestLastYear (P15.1, P15.2): what ends with the years (99991231 is a Friday).
func TestLastYear(t *testing.T) {
	const all = "FREQ=WEEKLY;BYDAY=MO,TU,WE,TH,FR,SA,SU"
	for _, one := range []struct{ start, rule, want string }{
		{"99991229T090000", "FREQ=DAILY", "99991229 30 31"},
		{"99991229T090000", "FREQ=DAILY;INTERVAL=2", "99991229 31"},
		{"99991229T090000", "FREQ=DAILY;INTERVAL=3", "99991229"},
		{"99991217T090000", "FREQ=WEEKLY", "99991217 24 31"},
		{"99991218T090000", "FREQ=WEEKLY", "99991218 25"},
		{"99991201T090000", "FREQ=MONTHLY", "99991201"},
		{"99991101T090000", "FREQ=MONTHLY", "99991101 1201"},
		{"99991101T090000", "FREQ=MONTHLY;INTERVAL=2", "99991101"},
		{"99970704T090000", "FREQ=YEARLY", "99970704 99980704 99990704"},
		{"99970704T090000", "FREQ=YEARLY;INTERVAL=1000", "99970704"},
		{"99991228T090000", all, "99991228 29 30 31"},
		{"99991215T090000", all + ";INTERVAL=2", "99991215 16 17 18 19 27 28 29 30 31"},
		{"99991215T090000", all + ";BYSETPOS=-1", "99991215 19 26 31"},
		{"99991215T090000", all + ";BYSETPOS=5,6", "99991215 17 18 24 25 31"},
		{"99991215T090000", all + ";BYSETPOS=-5", "99991215 22 27"},
		{"99991215T090000", all + ";BYSETPOS=1;WKST=FR", "99991215 17 24 31"},
		{"99991215T090000", all + ";BYSETPOS=-1;WKST=FR", "99991215 16 23 30 31"},
		{"99991215T090000", all + ";BYSETPOS=-1;WKST=SA", "99991215 17 24 31"},
		{"99991215T090000", all + ";BYSETPOS=2;WKST=SA", "99991215 19 26"},
	} {
		tells(t, one.start, one.rule, "", one.want)
		lastOf(t, one.start, one.rule+";COUNT=1000", one.want)
		lastOf(t, one.start, one.rule+";UNTIL=99991231", one.want)
		isLast(t, at(one.start), read(one.rule), 0, false)
	}
	for _, start := range []int64{lastTime, lastTime - 1, lastTime - 86399, lastTime - 3*daySecs, lastTime - 20*daySecs} {
		for wkst := range 7 {
			for _, pos := range []int{1, 2, 5, 7, -1, -2, -5, -7} {
				r := read(all)
				r.Wkst, r.BySetPos = wkst, []int{pos}
				likeModel(t, start, r, math.MinInt64, math.MaxInt64, math.MaxInt)
			}
		}
	}
}

// never is rules without any day, which begin at a time from which on their periods are known.
var never = []struct {
	start, rule string
	next        string // the first day of the 4001st period
}{
	{"20250102T090000", "FREQ=DAILY;BYMONTH=2;BYMONTHDAY=30", "20351216"},
	{"20250102T090000", "FREQ=DAILY;INTERVAL=2;BYMONTH=2;BYMONTHDAY=30", "20461128"},
	{"20250102T090000", "FREQ=WEEKLY;BYDAY=MO;BYSETPOS=2", "21010829"},
	{"20250102T090000", "FREQ=WEEKLY;BYDAY=MO;BYSETPOS=2;WKST=TH", "21010901"},
	{"20250102T090000", "FREQ=WEEKLY;BYDAY=MO;BYSETPOS=2;WKST=FR", "21010826"},
	{"20250102T090000", "FREQ=MONTHLY;BYMONTH=2;BYMONTHDAY=30", "23580501"},
	{"20250102T090000", "FREQ=MONTHLY;INTERVAL=5;BYMONTH=2;BYMONTHDAY=30", "36910901"},
	{"20250102T090000", "FREQ=YEARLY;BYMONTH=2;BYMONTHDAY=30", "60250101"},
}

// TestPeriods (P15.1, P15.2): a rule without any day is gone through 4000 periods, if no further one is begun ahead of the window's end, or not later than Until.
func TestPeriods(t *testing.T) {
	for _, one := range never {
		start, r, next := at(one.start), read(one.rule), at(one.next)
		only := []int64{start}
		tellsList(t, start, r, next-1, only)
		tellsList(t, start, r, next, only)
		for _, to := range []int64{next + 1, next + daySecs, lastTime, math.MaxInt64} {
			tooMany(t, start, r, to)
		}
		isLast(t, start, r, 0, false)
		for _, count := range []int{1, 2, 3, 1000} {
			counted := r
			counted.Count = count
			tellsList(t, start, counted, next, only)
			if count == 1 {
				tellsList(t, start, counted, math.MaxInt64, only)
				isLast(t, start, counted, start, true)
			} else {
				tooMany(t, start, counted, next+1)
				tooMany(t, start, counted, math.MaxInt64)
				isLast(t, start, counted, 0, false)
			}
		}
		for _, w := range []api.When{{Secs: firstTime}, {Secs: start}, {Secs: next - 1}, {Secs: next - 1, Utc: true}, {Secs: next - daySecs, Date: true}} {
			ended := r
			ended.HasUntil, ended.Until = true, w
			tellsList(t, start, ended, math.MaxInt64, only)
			isLast(t, start, ended, start, true)
		}
		for _, w := range []api.When{{Secs: next}, {Secs: next, Utc: true}, {Secs: next, Date: true}, {Secs: next + 1}, {Secs: lastTime}} {
			ended := r
			ended.HasUntil, ended.Until = true, w
			tellsList(t, start, ended, next, only)
			tooMany(t, start, ended, next+1)
			isLast(t, start, ended, 0, false)
		}
	}
}

// TestPeriodsOfYears (P15.1, P15.2): 4000 periods up to the end of the years, and one more.
func TestPeriodsOfYears(t *testing.T) {
	for _, one := range []struct {
		start, rule string
		ok          bool
	}{
		{"60001231T235959", "FREQ=YEARLY;BYMONTH=2;BYMONTHDAY=30", true},
		{"59991231T235959", "FREQ=YEARLY;BYMONTH=2;BYMONTHDAY=30", false},
		{"20020101T000000", "FREQ=YEARLY;INTERVAL=2;BYMONTH=2;BYMONTHDAY=30", true},
		{"20010101T000000", "FREQ=YEARLY;INTERVAL=2;BYMONTH=2;BYMONTHDAY=30", true},
		{"20000101T000000", "FREQ=YEARLY;INTERVAL=2;BYMONTH=2;BYMONTHDAY=30", true},
		{"19990101T000000", "FREQ=YEARLY;INTERVAL=2;BYMONTH=2;BYMONTHDAY=30", false},
		{"00010101T000000", "FREQ=YEARLY;INTERVAL=1000;BYMONTH=2;BYMONTHDAY=30", true},
		{"96660930T000000", "FREQ=MONTHLY;BYMONTH=2;BYMONTHDAY=30", true},
		{"96660831T000000", "FREQ=MONTHLY;BYMONTH=2;BYMONTHDAY=30", false},
		{"99890118T000000", "FREQ=DAILY;BYMONTH=2;BYMONTHDAY=30", true},
		{"99890117T000000", "FREQ=DAILY;BYMONTH=2;BYMONTHDAY=30", false},
		{"99230507T000000", "FREQ=WEEKLY;BYDAY=MO;BYSETPOS=2", true},
		{"99230506T000000", "FREQ=WEEKLY;BYDAY=MO;BYSETPOS=2", false},
		{"99230511T000000", "FREQ=WEEKLY;BYDAY=MO;BYSETPOS=2;WKST=FR", true},
		{"99230510T000000", "FREQ=WEEKLY;BYDAY=MO;BYSETPOS=2;WKST=FR", false},
	} {
		start, r := at(one.start), read(one.rule)
		counted, ended := r, r
		counted.Count = 2
		ended.HasUntil, ended.Until.Secs = true, lastTime
		for _, r := range []api.Rule{r, counted, ended} {
			if one.ok {
				tellsList(t, start, r, math.MaxInt64, []int64{start})
			} else {
				tooMany(t, start, r, math.MaxInt64)
			}
		}
		isLast(t, start, counted, start*sign(one.ok), one.ok)
		isLast(t, start, ended, start*sign(one.ok), one.ok)
	}
}

// sign is 1, or 0 of what is not.
func sign(ok bool) int64 {
	if ok {
		return 1
	}
	return 0
}

// TestPeriodsCounted (P15.1, P15.2, P15.6): what is through in the 4000th period is not gone through any further.
func TestPeriodsCounted(t *testing.T) {
	leap := "FREQ=YEARLY;BYMONTH=2;BYMONTHDAY=29;COUNT=" // in each fourth year, but for those of 100 that are none of 400: 970 up to 4000
	lastOf(t, "00010101T090000", leap+"970", "39960229")
	lastOf(t, "00010101T090000", leap+"971", "40000229")
	tooMany(t, at("00010101T090000"), read(leap+"972"), math.MaxInt64)
	isLast(t, at("00010101T090000"), read(leap+"972"), 0, false)
	tellsList(t, at("00010101T090000"), read(leap+"971"), at("00050101"), days(at("00010101T090000"), "00010101 00040229"))
	lastOf(t, "00020101T090000", leap+"971", "40000229")
	isLast(t, at("00020101T090000"), read(leap+"972"), 0, false)

	firsts := "FREQ=DAILY;BYMONTHDAY=16;COUNT=" // 20351215 is the 4000th day from 20250102 on
	lastOf(t, "20250102T090000", firsts+"132", "20351116")
	isLast(t, at("20250102T090000"), read(firsts+"133"), 0, false)
	lastOf(t, "20250103T090000", firsts+"133", "20351216")
	isLast(t, at("20250103T090000"), read(firsts+"134"), 0, false)

	weeks := "FREQ=WEEKLY;BYDAY=MO,SU;BYMONTH=2,3;COUNT=" // 21010822 begins the 4000th week, whose days tell nothing
	for _, n := range []int{700, 720, 1000} {
		r := read(weeks + fmt.Sprint(n))
		lastLikeModel(t, at("20250101T090000"), r)
		likeModel(t, at("20250101T090000"), r, math.MinInt64, math.MaxInt64, math.MaxInt)
	}
}

// TestPeriodsTold (P15.1): rules with a day in each period, up to the 4000th and beyond.
func TestPeriodsTold(t *testing.T) {
	start := at("20250102T090000")
	for _, one := range []struct{ rule, next string }{{"FREQ=DAILY", "20351216"}, {"FREQ=WEEKLY", "21010829"}, {"FREQ=MONTHLY", "23580501"}, {"FREQ=YEARLY", "60250101"}} {
		r, next := read(one.rule), at(one.next)
		likeModel(t, start, r, math.MinInt64, next, 4000)
		likeModel(t, start, r, math.MinInt64, next, 3999)
		likeModel(t, start, r, next-daySecs*400, next, 4000)
		tooMany(t, start, r, next+1)
		check(t, start, r, start, start+1, 0, nil, api.ErrMany)
		check(t, start, r, start, start+1, 1, []int64{start}, api.OK)
	}
}

// TestLast (P15.2): with neither Count nor Until, with each, and where days are too few in all years.
func TestLast(t *testing.T) {
	for _, freq := range []string{"DAILY", "WEEKLY", "MONTHLY", "YEARLY"} {
		for _, start := range []string{"00010101T000000", "20250131T090000", "99991231T235959"} {
			isLast(t, at(start), read("FREQ="+freq), 0, false)
			isLast(t, at(start), read("FREQ="+freq+";INTERVAL=1000"), 0, false)
			lastOf(t, start, "FREQ="+freq+";COUNT=1", start[:8])
			lastOf(t, start, "FREQ="+freq+";UNTIL=00010101", start[:8])
			lastOf(t, start, "FREQ="+freq+";UNTIL="+start, start[:8])
			lastLikeModel(t, at(start), read("FREQ="+freq+";UNTIL=99991231"))
		}
	}
	for _, one := range []struct{ start, rule, want string }{
		{"20250131T090000", "FREQ=MONTHLY;COUNT=4", "20250731"},
		{"20250131T090000", "FREQ=MONTHLY;UNTIL=20251230", "20251031"},
		{"20250131T090000", "FREQ=MONTHLY;UNTIL=20251231T085959", "20251031"},
		{"20250131T090000", "FREQ=MONTHLY;UNTIL=20251231T090000", "20251231"},
		{"99900131T090000", "FREQ=YEARLY;COUNT=1000", "99990131"},
		{"99910228T090000", "FREQ=YEARLY;BYMONTHDAY=29;BYMONTH=2;COUNT=1000", "99960229"},
		{"99970228T090000", "FREQ=YEARLY;BYMONTHDAY=29;BYMONTH=2;COUNT=1000", "99970228"},
		{"99000228T090000", "FREQ=MONTHLY;BYMONTHDAY=30;BYMONTH=2;COUNT=1000", "99000228"},
		{"99000228T090000", "FREQ=MONTHLY;BYMONTHDAY=30;BYMONTH=2;UNTIL=99991231", "99000228"},
		{"80000229T090000", "FREQ=YEARLY;COUNT=1000", "99960229"},
		{"20240229T090000", "FREQ=YEARLY;INTERVAL=1000;COUNT=1000", "90240229"},
		{"20230228T090000", "FREQ=YEARLY;INTERVAL=1000;COUNT=1000", "90230228"},
	} {
		lastOf(t, one.start, one.rule, one.want)
	}
}
