package value_test

import (
	"math"
	"strings"
	"testing"

	"almanac/api"
)

// period is one by its start and how long it is.
func period(start api.When, long int64) api.Period { return api.Period{Start: start, Long: long} }

// TestPeriod (P13.6): stamps of both kinds, equal ones, durations; ends behind the last day that there is.
func TestPeriod(t *testing.T) {
	x, y := local(1735689600), utc(1735689600)
	for _, c := range []struct {
		s    string
		want api.Period
	}{
		{"20250101T000000/20250101T010000", period(x, 3600)},
		{"20250101T000000Z/20250101T010000Z", period(y, 3600)},
		{"20250101T000000/20250101T000001", period(x, 1)},
		{"20250101T000000Z/20250101T000000Z", period(y, 0)},
		{"20250101T000000/20250101T000000", period(x, 0)},
		{"20241231T235959Z/20250101T000000Z", period(utc(1735689599), 1)},
		{"00010101T000000/99991231T235959", period(local(firstTime), lastTime-firstTime)},
		{"00010101T000000Z/99991231T235959Z", period(utc(firstTime), lastTime-firstTime)},
		{"99991231T235959Z/99991231T235959Z", period(utc(lastTime), 0)},
		{"20250101T000000/PT1H", period(x, 3600)},
		{"20250101T000000Z/PT1H", period(y, 3600)},
		{"20250101T000000Z/+PT1H", period(y, 3600)},
		{"20250101T000000/+P1W", period(x, 604800)},
		{"20250101T000000/P1DT2H3M4S", period(x, 93784)},
		{"20250101T000000/PT0S", period(x, 0)},
		{"20250101T000000/+PT0S", period(x, 0)},
		{"20250101T000000/-PT0S", period(x, 0)}, // 0 with a sign is not below 0
		{"20250101T000000Z/-P0W", period(y, 0)},
		{"20250101T000000Z/-P0DT0H0M0S", period(y, 0)},
		{"20250101T000000Z/PT0001S", period(y, 1)},
		{"20250101T000000/P9999999W", period(x, 6047999395200)},
		{"99991231T235959Z/PT1S", period(utc(lastTime), 1)},
		{"99991231T235959/P9999999W", period(local(lastTime), 6047999395200)},
		{"00010101T000000Z/P9999999DT9999999H9999999M9999999S", period(utc(firstTime), 900609909939)},
	} {
		checkPeriod(t, c.s, c.want, api.OK)
		checkPeriodText(t, c.want, modelPeriodText(c.want))
	}
}

// TestPeriodNone (P13.6): what is none, by its start, by its end, by how they go together.
func TestPeriodNone(t *testing.T) {
	starts := []string{"20250101T000000", "20250101T000000Z"}
	for _, from := range starts {
		for _, to := range []string{
			"", "/", "P", "PT", "1H", "PT1H5S", "p1d", "P1D ", " P1D", "P1D/", "/P1D", "P1D/P1D", "P1DZ", "P12345678S", "-PT1S", "-P1W", "-P1D", "-P9999999W", "-PT1H", "--PT1S", "+-PT1S", "-", "+",
			"20250101", "20250102", "20240101", "99991231", "0", "x", "20250229T000000", "20250229T000000Z", "20250101T240000", "20250101T240000Z", "20250101T010000z", "20250101T010000ZZ",
			"20250101T010000/", "20250101T010000Z/", "20250101T010000/20250101T020000", "20250101T010000Z/20250101T020000Z", "/20250101T010000", "/20250101T010000Z", "20250101T010000/PT1H", "PT1H/20250101T010000",
			" 20250101T010000", "20250101T010000 ", "20250101T010000Z ", "20250101T010000,20250101T020000", "PT1H,PT2H", "+20250101T010000", "P20250102T000000",
		} {
			checkPeriod(t, from+"/"+to, api.Period{}, api.ErrForm)
		}
		for _, between := range []string{"", "//", "-", "--", " ", ",", ";", "\\", "/ ", " /", "|", "\x00"} {
			checkPeriod(t, from+between+"20250101T010000", api.Period{}, api.ErrForm)
			checkPeriod(t, from+between+"20250101T010000Z", api.Period{}, api.ErrForm)
			checkPeriod(t, from+between+"PT1H", api.Period{}, api.ErrForm)
		}
	}
	for _, s := range []string{
		"20250101T000000/20250101T010000Z", "20250101T000000Z/20250101T010000", // of different kinds
		"20250101T000000/20250101T000000Z", "20250101T000000Z/20250101T000000", "20250101T010000Z/20250101T000000", "20250101T010000/20250101T000000Z",
		"20250101T000000/20241231T235959", "20250101T000000Z/20241231T235959Z", // a second earlier
		"20250101T000001Z/20250101T000000Z", "19700101T000000/19691231T235959", "99991231T235959/00010101T000000", "99991231T235959Z/00010101T000000Z",
	} {
		checkPeriod(t, s, api.Period{}, api.ErrForm)
	}
	for _, from := range []string{
		"", "20250101", "00010101", "99991231", "20250229T000000", "20250229T000000Z", "20250101T", "20250101Z", "20250101T000000z", "20250101T240000Z", " 20250101T000000", "20250101T000000 ", "PT1H", "P1D", "x", "/",
		"20250101T000000Z,20250101T000000Z", "20250101T000000ZZ", "+20250101T000000",
	} {
		for _, to := range []string{"", "20250101T010000", "20250101T010000Z", "20250101", "99991231", "PT1H", "PT0S", "+P1W", "-PT1S", "P1D/P1D", "x"} {
			checkPeriod(t, from+"/"+to, api.Period{}, api.ErrForm)
			checkPeriod(t, from+to, api.Period{}, api.ErrForm)
		}
	}
	checkPeriod(t, strings.Repeat("/", 1000000), api.Period{}, api.ErrForm)
	checkPeriod(t, "20250101T000000/P"+strings.Repeat("1", 1000000)+"W", api.Period{}, api.ErrForm)
}

// TestPeriodChanged (P13.6): right texts with each byte another one, one more or fewer; all pairs of what may stand at either side.
func TestPeriodChanged(t *testing.T) {
	var l []string
	for _, right := range []string{"20250101T000000/20250101T000000", "20250131T110000Z/20250131T120000Z", "20250101T000000/PT1H0M5S", "20240229T235959Z/+P1W", "99991231T235959Z/-PT0S"} {
		l = append(l, changed(right)...)
	}
	sides := []string{
		"", "20250101", "20250101T000000", "20250101T000000Z", "20250101T000001", "20250101T000001Z", "20241231T235959", "20241231T235959Z", "00010101T000000", "00010101T000000Z", "99991231T235959", "99991231T235959Z",
		"PT0S", "-PT0S", "PT1S", "+PT1S", "-PT1S", "P1W", "-P1W", "P", "x",
	}
	for _, a := range sides {
		for _, b := range sides {
			l = append(l, a+b)
			for _, c := range sides {
				l = append(l, a+"/"+b, a+"/"+b+"/"+c)
			}
		}
	}
	for _, s := range l {
		p, e := modelPeriod(s)
		checkPeriod(t, s, p, e)
		if e == api.OK {
			checkPeriodText(t, p, modelPeriodText(p))
		}
	}
}

// TestPeriodText (P13.6): what is written, and what no text is read as.
func TestPeriodText(t *testing.T) {
	x := int64(1735689600)
	for _, c := range []struct {
		p    api.Period
		want string
	}{
		{period(local(x), 0), "20250101T000000/PT0S"},
		{period(utc(x), 0), "20250101T000000Z/PT0S"},
		{period(local(x), 1), "20250101T000000/PT1S"},
		{period(utc(x), 3605), "20250101T000000Z/PT1H0M5S"},
		{period(utc(x), 604800), "20250101T000000Z/P1W"},
		{period(local(x), 86400), "20250101T000000/P1D"},
		{period(utc(x), most), "20250101T000000Z/P11574DT1H46M40S"},
		{period(utc(x), most+1), ""},
		{period(utc(x), 1<<32), ""},
		{period(utc(x), 6047999395200), ""},
		{period(utc(x), math.MaxInt64), ""},
		{period(utc(x), -1), ""},
		{period(local(x), -604800), ""},
		{period(utc(x), -most), ""},
		{period(utc(x), -most-1), ""},
		{period(utc(x), math.MinInt64), ""},
		{period(day(x), 0), ""},
		{period(day(x), 3600), ""},
		{period(day(x), 86400), ""},
		{period(day(x+1), 3600), ""},
		{period(api.When{Secs: x, Utc: true, Date: true}, 3600), ""},
		{period(api.When{Secs: x, Utc: true, Date: true}, 0), ""},
		{period(local(firstTime), 1), "00010101T000000/PT1S"},
		{period(local(firstTime-1), 1), ""},
		{period(utc(firstTime-1), 0), ""},
		{period(utc(lastTime), 1), "99991231T235959Z/PT1S"},
		{period(utc(lastTime), most), "99991231T235959Z/P11574DT1H46M40S"},
		{period(utc(lastTime+1), 0), ""},
		{period(local(lastTime+1), 0), ""},
		{period(local(math.MaxInt64), 1), ""},
		{period(utc(math.MinInt64), 1), ""},
		{period(local(math.MinInt64), math.MinInt64), ""},
		{api.Period{}, "19700101T000000/PT0S"},
	} {
		checkPeriodText(t, c.p, c.want)
	}
}

// TestPeriodBack (P13.6, P13.7): drawn periods are read, and written so that they are read as the same, if they may be written.
func TestPeriodBack(t *testing.T) {
	draw := newDraw(7)
	for range 100000 {
		n := firstTime + draw.Int64N(lastTime-firstTime+1)
		long := []int64{draw.Int64N(most + 1), draw.Int64N(100000), draw.Int64N(10) * weekSecs, drawn(draw)}[draw.IntN(4)]
		for _, w := range whens(n) {
			checkPeriodText(t, period(w, long), modelPeriodText(period(w, long)))
			end := w
			end.Secs = min(lastTime, max(firstTime, n+long%(1<<40)))
			s := modelTimeText(w) + "/" + modelTimeText(end)
			p, e := modelPeriod(s)
			checkPeriod(t, s, p, e)
			checkPeriodText(t, p, modelPeriodText(p))
		}
	}
}

// FuzzValue: any text, and any numbers.
func FuzzValue(f *testing.F) {
	for _, s := range []string{"", "-P1DT2H3M4S", "+P1W", "+013059", "-0130", `a\,b\n`, "20250101", "20250101T000000Z", "20250101,20250131T110000", "20250101T000000/PT1H", "20250101T000000Z/20250101T010000Z"} {
		f.Add(s, int64(86399), int64(3605))
	}
	f.Add(",", int64(math.MinInt64), int64(math.MaxInt64))
	f.Fuzz(func(t *testing.T, s string, n, long int64) {
		readLikeModels(t, s)
		checkEscape(t, s, modelEscape(s))
		writtenLikeModels(t, n, long)
		writtenLikeModels(t, n%lastTime, long%most)
		writtenLikeModels(t, n%weekSecs, n%most)
		writtenLikeModels(t, n%40000*daySecs, long)
	})
}
