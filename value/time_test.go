package value_test

import (
	"fmt"
	"math"
	"slices"
	"strings"
	"testing"

	"almanac/api"
	"almanac/value"
)

func day(secs int64) api.When   { return api.When{Secs: secs, Date: true} }
func utc(secs int64) api.When   { return api.When{Secs: secs, Utc: true} }
func local(secs int64) api.When { return api.When{Secs: secs} }

// TestTime (P13.4): days, and stamps with and without Z; what is told is written as it stood.
func TestTime(t *testing.T) {
	for _, c := range []struct {
		s    string
		want api.When
	}{
		{"19700101", day(0)},
		{"19700102", day(86400)},
		{"19691231", day(-86400)},
		{"20250101", day(1735689600)},
		{"20000229", day(951782400)},
		{"20240229", day(1709164800)},
		{"00010101", day(-62135596800)},
		{"99991231", day(253402214400)},
		{"19700101T000000", local(0)},
		{"19700101T000001", local(1)},
		{"19691231T235959", local(-1)},
		{"20250101T000000", local(1735689600)},
		{"20250131T110000", local(1738321200)},
		{"00010101T000000", local(-62135596800)},
		{"99991231T235959", local(253402300799)},
		{"20000229T235959", local(951868799)},
		{"19700101T000000Z", utc(0)},
		{"19700101T000001Z", utc(1)},
		{"19691231T235959Z", utc(-1)},
		{"20250101T000000Z", utc(1735689600)},
		{"00010101T000000Z", utc(-62135596800)},
		{"99991231T235959Z", utc(253402300799)},
		{"20000229T235959Z", utc(951868799)},
	} {
		checkTime(t, c.s, c.want, api.OK)
		checkTimeText(t, c.want, c.s)
		checkTimes(t, c.s, []api.When{c.want}, api.OK)
	}
}

// TestTimeNone (P13.4): what is none: days that there are not, letters, bytes behind.
func TestTimeNone(t *testing.T) {
	days := []string{
		"", "0", "2025", "202501", "2025010", "202501011", "00000101", "00001231", "20250001", "20251301", "20250100", "20250132", "20250229", "20230229", "19000229", "21000229", "20240230", "20250431",
		"2025-01-01", "2025 101", "+2025010", "-2025010", "2025010a", "2025010Z", "2025T101", "100000101", "000101", "00010100", "99991232", "99991301", "99999999",
	}
	for _, s := range days {
		for _, behind := range []string{"", "T000000", "T000000Z", "Z", "T", "TZ"} {
			checkTime(t, s+behind, api.When{}, api.ErrForm)
			checkTimes(t, s+behind, nil, api.ErrForm)
		}
	}
	for _, s := range []string{
		"Z", "T", "z", "P1D", "now", "20250101Z", "20250101z", "20250101T", "20250101TZ", "20250101T00", "20250101T0000", "20250101T0000Z", "20250101T00000", "20250101T0000000", "20250101T00000Z",
		"20250101T240000", "20250101T240000Z", "20250101T006000", "20250101T000060", "20250101T235960", "20250101T235960Z", "20250101T246060Z",
		"20250101t000000", "20250101t000000Z", "20250101 000000", "20250101000000", "20250101000000Z", "20250101T000000z", "20250101T000000ZZ", "20250101T000000Zz", "20250101T000000Z ", "20250101T000000 Z",
		"20250101T000000 ", " 20250101T000000", " 20250101", "20250101 ", "20250101\n", "20250101T000000\n", "20250101T000000Z\n", "20250101\x00", "20250101T000000\x00", "20250101T000000Z\x00", "\x0020250101",
		"Z20250101T000000", "20250101T000000+", "20250101T000000+0000", "20250101T000000-0100", "20250101T000000Z0", "20250101T000000.0", "20250101T000000.0Z", "20250101T00:00:00", "20250101TT00000",
		"20250101T+00000", "20250101T00000-", "20250101,", ",20250101", "20250101/", "20250101;", "20250101T000000Y", "20250101T000000\xff", "20250101T000000A", "20250101T000000\u00da",
		"TZID=UTC:20250101T000000", strings.Repeat("2", 1000000), "20250101" + strings.Repeat("Z", 1000000), "20250101T000000" + strings.Repeat("Z", 1000000),
	} {
		checkTime(t, s, api.When{}, api.ErrForm)
	}
}

// TestTimeChanged (P13.4): right texts with each byte another one, one more or fewer.
func TestTimeChanged(t *testing.T) {
	for _, right := range []string{"20240229", "20250101", "19991231T235959", "20250131T110000Z", "00010101T000000Z", "99991231T235959"} {
		for _, s := range changed(right) {
			w, e := modelTime(s)
			checkTime(t, s, w, e)
		}
	}
}

// TestTimeText (P13.4): the ends, days that are no midnights, and days of UTC.
func TestTimeText(t *testing.T) {
	for _, secs := range []int64{0, 86400, -86400, 1735689600, firstTime, lastTime - 86399} {
		checkTimeText(t, api.When{Secs: secs, Utc: true, Date: true}, "")
		for _, more := range []int64{1, 59, 60, 3600, 43200, 86399} {
			checkTimeText(t, day(secs+more), "")
			checkTimeText(t, api.When{Secs: secs + more, Utc: true, Date: true}, "")
		}
	}
	for _, secs := range []int64{firstTime - 1, firstTime - 86400, firstTime - 86399, lastTime + 1, lastTime + 86400, lastTime + 86401, math.MinInt64, math.MinInt64 + 1, math.MaxInt64, math.MaxInt64 - 1, math.MinInt64 / 86400 * 86400, math.MaxInt64 / 86400 * 86400} {
		for _, w := range whens(secs) {
			checkTimeText(t, w, "")
		}
	}
	checkTimeText(t, local(firstTime), "00010101T000000")
	checkTimeText(t, utc(firstTime), "00010101T000000Z")
	checkTimeText(t, day(firstTime), "00010101")
	checkTimeText(t, local(lastTime), "99991231T235959")
	checkTimeText(t, utc(lastTime), "99991231T235959Z")
	checkTimeText(t, day(lastTime), "")
	checkTimeText(t, day(lastTime+1), "")
	checkTimeText(t, day(lastTime-86399), "99991231")
	checkTimeText(t, local(-1), "19691231T235959")
	checkTimeText(t, day(-1), "")
}

// TestTimeBack (P13.4, P13.7): times of each kind, drawn, at midnights and anywhere.
func TestTimeBack(t *testing.T) {
	draw := newDraw(5)
	for range 100000 {
		for _, n := range []int64{firstTime + draw.Int64N(lastTime-firstTime+1), (draw.Int64N(3652059) - 719162) * daySecs, drawn(draw)} {
			for _, w := range whens(n) {
				checkTimeText(t, w, modelTimeText(w))
			}
		}
		s := fmt.Sprintf("%04d%02d%02d", draw.IntN(10000), draw.IntN(14), draw.IntN(33))
		if draw.IntN(2) == 0 {
			s += fmt.Sprintf("T%02d%02d%02d", draw.IntN(25), draw.IntN(61), draw.IntN(61))
		}
		for _, s := range []string{s, s + "Z"} {
			w, e := modelTime(s)
			checkTime(t, s, w, e)
			if e == api.OK {
				checkTimeText(t, w, s)
			}
		}
	}
}

// TestTimes (P13.5): one, several, of mixed kinds, in their order, some twice; none, and what is none among them.
func TestTimes(t *testing.T) {
	a, b, c := "20250101", "20240229T235959", "20250131T110000Z"
	x, y, z := day(1735689600), local(1709251199), utc(1738321200)
	for _, one := range []struct {
		s    string
		want []api.When
	}{
		{a, []api.When{x}},
		{b, []api.When{y}},
		{c, []api.When{z}},
		{a + "," + b, []api.When{x, y}},
		{b + "," + a, []api.When{y, x}},
		{a + "," + b + "," + c, []api.When{x, y, z}},
		{c + "," + b + "," + a, []api.When{z, y, x}},
		{a + "," + a + "," + a, []api.When{x, x, x}},
		{c + "," + a + "," + c + "," + b, []api.When{z, x, z, y}},
	} {
		checkTimes(t, one.s, one.want, api.OK)
	}
	for _, s := range []string{
		"", ",", ",,", "," + a, a + ",", a + ",," + b, "," + a + "," + b, a + "," + b + ",", ",," + a, a + ",,", a + ", " + b, a + " ," + b, " " + a, a + " ", a + ";" + b, a + "/" + b, a + b,
		a + ",x", "x," + a, a + ",20250229," + b, a + "," + b + "z", "20250101Z," + c, a + "\\," + b, a + "\n" + b, a + ",\n" + b, a + ",P1D", a + "," + b + "/" + b, "\x00", strings.Repeat("x", 1000000),
	} {
		checkTimes(t, s, nil, api.ErrForm)
	}
}

// TestTimesMany (P13.5): 99 to 102 times, right ones and such as are none, at each place.
func TestTimesMany(t *testing.T) {
	var texts []string
	var want []api.When
	for i := range int64(103) {
		w := []api.When{day(i * 86400 * 40), local(i*86400*40 + i), utc(-i * 86400 * 40)}[i%3]
		texts, want = append(texts, modelTimeText(w)), append(want, w)
	}
	for n := 1; n <= len(texts); n++ {
		if n <= 100 {
			checkTimes(t, strings.Join(texts[:n], ","), want[:n], api.OK)
		} else {
			checkTimes(t, strings.Join(texts[:n], ","), nil, api.ErrMany)
		}
		e := api.ErrForm
		if n > 100 {
			e = api.ErrMany
		}
		for at := range n {
			for _, faulty := range []string{"", "x", "20250229", " " + texts[at]} {
				l := slices.Clone(texts[:n])
				l[at] = faulty
				checkTimes(t, strings.Join(l, ","), nil, e)
			}
		}
	}
	checkTimes(t, strings.Repeat(",", 98), nil, api.ErrForm)
	checkTimes(t, strings.Repeat(",", 99), nil, api.ErrForm)
	checkTimes(t, strings.Repeat(",", 100), nil, api.ErrMany)
	checkTimes(t, strings.Repeat(",", 101), nil, api.ErrMany)
	checkTimes(t, strings.Repeat(",", 1000000), nil, api.ErrMany)
	all := strings.Join(texts[:100], ",")
	checkTimes(t, all+",", nil, api.ErrMany)
	checkTimes(t, ","+all, nil, api.ErrMany)
	checkTimes(t, all+";"+texts[0], nil, api.ErrForm)
	checkTimes(t, all+" ", nil, api.ErrForm)
}

// TestTimesDrawn (P13.5, P13.7): drawn lists are read as they were written.
func TestTimesDrawn(t *testing.T) {
	draw := newDraw(6)
	for range 3000 {
		var texts []string
		var want []api.When
		for range 1 + draw.IntN([]int{3, 20, 110}[draw.IntN(3)]) {
			n := (draw.Int64N(3652059) - 719162) * daySecs
			w := []api.When{day(n), local(n + draw.Int64N(daySecs)), utc(n + draw.Int64N(daySecs))}[draw.IntN(3)]
			texts, want = append(texts, value.TimeText(w)), append(want, w)
		}
		s := strings.Join(texts, ",")
		if len(want) > 100 {
			checkTimes(t, s, nil, api.ErrMany)
		} else {
			checkTimes(t, s, want, api.OK)
		}
		at := draw.IntN(len(s) + 1)
		s = s[:at] + []string{",", "", "Z", "T", "0", "/"}[draw.IntN(6)] + s[min(len(s), at+draw.IntN(2)):]
		l, e := modelTimes(s)
		checkTimes(t, s, l, e)
	}
}

// TestTimesApart (P13.5): what is told is new each time, and may be changed.
func TestTimesApart(t *testing.T) {
	const s = "20250101,20250102,20250103"
	a, _ := value.Times(s)
	b, _ := value.Times(s)
	want := slices.Clone(b)
	clear(a)
	_ = append(a[:1], utc(1), utc(2))
	if !slices.Equal(b, want) {
		t.Errorf("Times(%q) = %v, changed by what another call told", s, b)
	}
	checkTimes(t, s, want, api.OK)
}
