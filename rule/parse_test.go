package rule_test

import (
	"strings"
	"testing"

	"almanac/api"
)

// plain is a rule of a frequency alone.
func plain(freq int) api.Rule { return api.Rule{Freq: freq, Interval: 1} }

// with is a rule of a frequency, with something more.
func with(freq int, set func(*api.Rule)) api.Rule {
	r := plain(freq)
	set(&r)
	return r
}

// right is a value of each part that a monthly rule may have.
var right = map[string]string{
	"FREQ": "MONTHLY", "INTERVAL": "2", "COUNT": "3", "UNTIL": "20250101T000000Z", "BYMONTH": "1", "BYMONTHDAY": "1", "BYDAY": "1MO", "BYSETPOS": "1", "WKST": "TU",
}

// wrong is a value that is none, of each part but FREQ.
var wrong = map[string]string{
	"INTERVAL": "0", "COUNT": "0", "UNTIL": "now", "BYMONTH": "0", "BYMONTHDAY": "0", "BYDAY": "0MO", "BYSETPOS": "0", "WKST": "XX",
}

// TestExamples (P14.1, P14.3): those of the chapter.
func TestExamples(t *testing.T) {
	r := with(api.FrMonthly, func(r *api.Rule) { r.Count, r.ByDay = 3, []api.WDay{{N: -1, Day: 4}} })
	parses(t, "FREQ=MONTHLY;BYDAY=-1FR;COUNT=3", r)
	prints(t, r, "FREQ=MONTHLY;COUNT=3;BYDAY=-1FR")
	fails(t, "FREQ=HOURLY", api.ErrKind)
	fails(t, "COUNT=3", api.ErrMiss)
	fails(t, "FREQ=WEEKLY;BYDAY=1MO", api.ErrState)
}

// TestForm (P14.1): what is no part, or several.
func TestForm(t *testing.T) {
	for _, s := range []string{
		"", ";", ";;", " ", "a", "FREQ", "FREQ;", "FREQ;=", "FREQ:DAILY", "FREQ DAILY", "DAILY", ",", "\n", "\x00", "\xff", "\u00e9",
		"FREQ=DAILY;", ";FREQ=DAILY", "FREQ=DAILY;;COUNT=3", "FREQ=DAILY;;", "FREQ=DAILY; ", "FREQ=DAILY;COUNT", "FREQ=DAILY;COUNT;COUNT=3", "FREQ=DAILY;FREQ", "FREQ=DAILY;X", "COUNT=3;", ";COUNT=3",
		"FREQ=DAILY;COUNT:3", "FREQ=DAILY;COUNT3", "FREQ=DAILY;BYMONTH=1;2", "FREQ=DAILY;BYMONTH=1;,", strings.Repeat(";", 100000), strings.Repeat("a", 100000), "FREQ=DAILY" + strings.Repeat(";", 100000),
	} {
		fails(t, s, api.ErrForm)
	}
	for _, s := range []string{
		"=", "==", "=;", "=DAILY", "=FREQ", "=;FREQ=DAILY", "FREQ=DAILY;=", "FREQ=DAILY;=3", "FREQ=DAILY;==", "FREQ==DAILY", "FREQ=DAILY=", "FREQ=DAILY=DAILY", "FREQ=DAILY=;", "FREQ==",
		"FREQ=", "FREQ=;", "FREQ=FREQ=DAILY",
	} {
		fails(t, s, api.ErrKind)
	}
	for _, name := range names[1:] {
		for _, v := range []string{"", "=", "=" + right[name], right[name] + "=", right[name] + "=" + right[name], " ", " " + right[name], right[name] + " ", right[name] + "\n", right[name] + "\x00", "\t" + right[name], `"` + right[name] + `"`} {
			fails(t, "FREQ=MONTHLY;"+name+"="+v, api.ErrForm)
			fails(t, name+"="+v+";FREQ=MONTHLY", api.ErrForm)
			fails(t, name+"="+v, api.ErrForm)
		}
	}
}

// TestName (P14.1, P14.6): each name in great, small and mixed letters.
func TestName(t *testing.T) {
	ahead := map[string]string{"FREQ": "", "BYSETPOS": "FREQ=MONTHLY;BYMONTH=1;"}
	for _, name := range names {
		before, isOther := ahead[name]
		if !isOther {
			before = "FREQ=MONTHLY;"
		}
		want, e := modelParse(before + name + "=" + right[name])
		if e != api.OK {
			t.Fatal(name, e)
		}
		for _, one := range cases(name) {
			parses(t, before+one+"="+right[name], want)
			parses(t, strings.ToLower(before)+one+"="+strings.ToLower(right[name]), want)
		}
	}
}

// TestNoName (P14.1): names that there are not: other ones, with a byte more, fewer or another one, and letters that some take for these.
func TestNoName(t *testing.T) {
	for _, name := range []string{
		"", " ", "X", "x", "FRE", "REQ", "FREQS", "BY", "BYHOUR", "BYMINUTE", "BYSECOND", "BYWEEKNO", "BYYEARDAY", "BYWEEKDAY", "BYEASTER", "RSCALE", "SKIP", "DTSTART", "RRULE", "RRULE:FREQ", "DAY", "MONTH", "SETPOS", "MONTHDAY",
		"BYDAYS", "BYMONTHS", "BYMONTHDAYS", "BY MONTH", "BYMONTH DAY", "WEEKST", "WKS", "KST", "UNTI", "NTIL", "COUNTS", "COUN", "INTERVA", "INTERVALS", "DAILY", "WEEKLY", "MO", "1", ",", "BYMONTH,BYDAY",
		" FREQ", "FREQ ", "\tFREQ", "FREQ\n", "\x00FREQ", "FREQ\x00", "BYSETPO\u017f", "byſetpos", "W\u212aST", "w\u212ast", "\u017fKIP", "C\u00d6UNT", "C\xd6UNT", "c\u00f6unt", "F\u0280EQ", "\xffFREQ", strings.Repeat("A", 100000),
	} {
		fails(t, name+"=1", api.ErrKind)
		fails(t, name+"=", api.ErrKind)
		fails(t, name+"=DAILY", api.ErrKind)
		fails(t, "FREQ=DAILY;"+name+"=1", api.ErrKind)
		fails(t, "FREQ=DAILY;"+name+"=1;COUNT=0", api.ErrKind)
		fails(t, name+"=1;FREQ=DAILY", api.ErrKind)
	}
	for _, name := range names {
		for at := range len(name) {
			for b := range 256 {
				one := string([]byte{byte(b)})
				likeModel(t, "FREQ=DAILY;"+name[:at]+one+name[at+1:]+"=1")
				likeModel(t, "FREQ=DAILY;"+name[:at]+one+name[at:]+"=1")
				likeModel(t, name[:at]+one+name[at+1:]+"=daily")
			}
			for _, cut := range []string{name[:at], name[at+1:], name[:at] + name[at+1:]} {
				if cut != "BYMONTH" { // what BYMONTHDAY begins with
					fails(t, cut+"="+right[name], api.ErrKind)
				}
			}
		}
	}
}

// TestTwice (P14.1, P14.6): a name that stood, in whatever letters, with the same value or another one, right next or further on.
func TestTwice(t *testing.T) {
	for _, name := range names {
		one := name + "=" + right[name]
		for _, as := range cases(name) {
			for _, v := range []string{right[name], strings.ToLower(right[name])} {
				fails(t, one+";"+as+"="+v, api.ErrTwice)
				fails(t, as+"="+v+";"+one, api.ErrTwice)
				fails(t, one+";"+as+"="+v+";FREQ", api.ErrTwice)
				for _, other := range names {
					if other != name {
						fails(t, one+";"+other+"="+right[other]+";"+as+"="+v, api.ErrTwice)
						fails(t, other+"="+right[other]+";"+one+";"+as+"="+v, api.ErrTwice)
					}
				}
			}
			if name != "FREQ" { // a second one's value is not read, a first one's is
				fails(t, one+";"+as+"="+wrong[name], api.ErrTwice)
				fails(t, one+";"+as+"=", api.ErrTwice)
				fails(t, one+";"+as+"="+repeated(right[name], 25), api.ErrTwice)
				fails(t, as+"="+wrong[name]+";"+one, api.ErrForm)
				fails(t, as+"="+wrong[name]+";"+as+"="+wrong[name], api.ErrForm)
			}
		}
	}
	for _, s := range []string{"FREQ=DAILY;FREQ=WEEKLY", "FREQ=DAILY;INTERVAL=1;INTERVAL=1", "FREQ=DAILY;COUNT=1;COUNT=2", "FREQ=DAILY;WKST=MO;WKST=MO", "FREQ=DAILY;BYMONTH=1;BYMONTH=2", "COUNT=3;COUNT=3", "COUNT=3;FREQ=DAILY;COUNT=3;UNTIL=20250101"} {
		fails(t, s, api.ErrTwice)
	}
}

// TestFirst (P14.1): of several faults the first one, part by part, and in a part by the order that the chapter has.
func TestFirst(t *testing.T) {
	many := repeated("1", 25)
	for _, c := range []struct {
		s string
		e api.Errno
	}{
		{"FREQ=HOURLY;COUNT", api.ErrKind},
		{"COUNT;FREQ=HOURLY", api.ErrForm},
		{"FREQ=DAILY;FREQ=HOURLY", api.ErrKind}, // of a FREQ that stood, too
		{"FREQ=DAILY;FREQ=", api.ErrKind},
		{"FREQ=DAILY;FREQ=DAILY", api.ErrTwice},
		{"FREQ=HOURLY;FREQ=DAILY", api.ErrKind},
		{"FREQ=HOURLY;FREQ=HOURLY", api.ErrKind},
		{"FREQ=DAILY;FREQ=DAILY,DAILY", api.ErrKind},
		{"FREQ=DAILY;X=1;X=1", api.ErrKind},
		{"FREQ=DAILY;BYMONTH=1;BYMONTH=" + many, api.ErrTwice},
		{"FREQ=DAILY;BYMONTH=" + many + ";BYMONTH=1", api.ErrMany},
		{"FREQ=DAILY;BYMONTH=" + repeated("13", 25), api.ErrMany},
		{"FREQ=DAILY;BYMONTH=13," + repeated("1", 24), api.ErrMany},
		{"FREQ=DAILY;BYMONTH=13," + repeated("1", 23), api.ErrForm},
		{"FREQ=DAILY;BYMONTH=" + strings.Repeat(",", 24), api.ErrMany},
		{"FREQ=DAILY;BYMONTH=" + strings.Repeat(",", 23), api.ErrForm},
		{"FREQ=DAILY;BYMONTH=" + many + ";COUNT", api.ErrMany},
		{"FREQ=DAILY;BYMONTH=" + many + ";COUNT=0", api.ErrMany},
		{"FREQ=DAILY;COUNT=0;BYMONTH=" + many, api.ErrForm},
		{"FREQ=DAILY;COUNT=0;X=1", api.ErrForm},
		{"FREQ=DAILY;X=1;COUNT=0", api.ErrKind},
		{"FREQ=DAILY;COUNT=0;FREQ=DAILY", api.ErrForm},
		{"FREQ=DAILY;FREQ=DAILY;COUNT=0", api.ErrTwice},
		{"FREQ=DAILY;FREQ=DAILY;COUNT", api.ErrTwice},
		{"COUNT=3;COUNT", api.ErrForm},
		{"COUNT=3;X=1", api.ErrKind},
		{"COUNT=3;COUNT=3", api.ErrTwice},
		{"COUNT=3;BYMONTH=" + many, api.ErrMany},
		{"COUNT=3;INTERVAL=0", api.ErrForm},
		{"COUNT=3;UNTIL=20250101", api.ErrMiss}, // ahead of what is not fit
		{"BYSETPOS=1", api.ErrMiss},
		{"BYDAY=1MO", api.ErrMiss},
		{"INTERVAL=1", api.ErrMiss},
		{"WKST=MO", api.ErrMiss},
		{"COUNT=3;UNTIL=20250101;FREQ=DAILY", api.ErrState},
		{"COUNT=3;UNTIL=20250101;FREQ=HOURLY", api.ErrKind},
		{"COUNT=3;UNTIL=20250101;FREQ=DAILY;X", api.ErrForm},
		{"COUNT=3;UNTIL=20250101;FREQ=DAILY;X=", api.ErrKind},
		{"COUNT=3;UNTIL=20250101;FREQ=DAILY;COUNT=3", api.ErrTwice},
		{"COUNT=3;UNTIL=20250101;FREQ=DAILY;BYMONTH=" + many, api.ErrMany},
		{"COUNT=3;UNTIL=20250101;FREQ=DAILY;BYMONTH=0", api.ErrForm},
	} {
		fails(t, c.s, c.e)
	}
}

// TestFaults (P14.1): all rows of three parts that are right or wrong in each way.
func TestFaults(t *testing.T) {
	pieces := []string{"", "X", "X=1", "=", "FREQ=DAILY", "freq=weekly", "FREQ=HOURLY", "COUNT=3", "count=0", "UNTIL=20250101", "UNTIL=", "BYMONTH=1", "bymonth=1,0", "BYMONTH=" + repeated("1", 25), "BYDAY=1MO", "BYDAY=MO", "BYSETPOS=-1", "BYMONTHDAY=1"}
	for _, a := range pieces {
		likeModel(t, a)
		for _, b := range pieces {
			likeModel(t, a+";"+b)
			for _, c := range pieces {
				likeModel(t, a+";"+b+";"+c)
				likeModel(t, "FREQ=YEARLY;"+a+";"+b+";"+c)
			}
		}
	}
}

// TestState (P14.1, P14.2): rules whose parts are right, but do not go with each other.
func TestState(t *testing.T) {
	for _, s := range []string{
		"FREQ=DAILY;COUNT=3;UNTIL=20250101", "FREQ=DAILY;UNTIL=20250101T000000Z;COUNT=1000", "FREQ=YEARLY;UNTIL=20250101T000000;COUNT=1",
		"FREQ=WEEKLY;BYMONTHDAY=1", "FREQ=WEEKLY;BYMONTHDAY=-1", "BYMONTHDAY=31,30;FREQ=WEEKLY",
		"FREQ=WEEKLY;BYDAY=1MO", "FREQ=WEEKLY;BYDAY=MO,TU,-1FR", "FREQ=DAILY;BYDAY=53SU", "FREQ=DAILY;BYDAY=+1SU", "BYDAY=-53SU,MO;FREQ=DAILY",
		"FREQ=DAILY;BYSETPOS=1", "FREQ=WEEKLY;BYSETPOS=-1", "FREQ=MONTHLY;BYSETPOS=1,2", "FREQ=YEARLY;BYSETPOS=366", "BYSETPOS=1;FREQ=MONTHLY;COUNT=3;INTERVAL=2;WKST=SU",
	} {
		fails(t, s, api.ErrState)
	}
	parses(t, "FREQ=DAILY;BYMONTHDAY=-1", with(api.FrDaily, func(r *api.Rule) { r.ByMonthDay = []int{-1} }))
	parses(t, "FREQ=DAILY;BYDAY=SU", with(api.FrDaily, func(r *api.Rule) { r.ByDay = []api.WDay{{Day: 6}} }))
	parses(t, "FREQ=WEEKLY;BYDAY=SU,MO", with(api.FrWeekly, func(r *api.Rule) { r.ByDay = []api.WDay{{Day: 6}, {Day: 0}} }))
	parses(t, "FREQ=WEEKLY;BYSETPOS=-1;BYDAY=MO", with(api.FrWeekly, func(r *api.Rule) { r.ByDay, r.BySetPos = []api.WDay{{}}, []int{-1} }))
	parses(t, "FREQ=MONTHLY;BYSETPOS=2;BYMONTHDAY=1,2", with(api.FrMonthly, func(r *api.Rule) { r.ByMonthDay, r.BySetPos = []int{1, 2}, []int{2} }))
	parses(t, "FREQ=YEARLY;BYSETPOS=366;BYMONTH=2", with(api.FrYearly, func(r *api.Rule) { r.ByMonth, r.BySetPos = []int{2}, []int{366} }))
	parses(t, "FREQ=YEARLY;BYDAY=53SU,-53MO", with(api.FrYearly, func(r *api.Rule) { r.ByDay = []api.WDay{{N: 53, Day: 6}, {N: -53}} }))
	parses(t, "FREQ=MONTHLY;BYDAY=53SU", with(api.FrMonthly, func(r *api.Rule) { r.ByDay = []api.WDay{{N: 53, Day: 6}} }))
}
