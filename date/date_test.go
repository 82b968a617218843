package date_test

import (
	"math"
	"math/big"
	"math/rand/v2"
	"testing"
	"time"

	"almanac/api"
	"almanac/date"
)

const (
	firstDay  = -719162
	lastDay   = 2932896
	firstTime = -62135596800
	lastTime  = 253402300799
	daySecs   = 86400
)

// civil is a date.
type civil struct{ y, m, d int }

// modelLength is what Length is to tell.
func modelLength(y, m int) int {
	if y < 1 || y > 9999 {
		return 0
	}
	switch m {
	case 1, 3, 5, 7, 8, 10, 12:
		return 31
	case 4, 6, 9, 11:
		return 30
	case 2:
		if y%400 == 0 {
			return 29
		}
		if y%100 == 0 {
			return 28
		}
		if y%4 == 0 {
			return 29
		}
		return 28
	}
	return 0
}

// next is the date behind one.
func next(c civil) civil {
	if c.d++; c.d > modelLength(c.y, c.m) {
		c.d = 1
		c.m++
	}
	if c.m > 12 {
		c.m = 1
		c.y++
	}
	return c
}

// oddInts is numbers that are no parts of a date, and such as become one where bits are lost.
func oddInts() []int {
	l := []int{-1, -2, -12, -400, 13, 32, 99, 100, 255, 256, 10000, 10001, 65535, math.MinInt, math.MinInt + 1, math.MaxInt, math.MaxInt - 1}
	for _, bits := range []int{8, 16, 31, 32, 33, 62, 63} {
		for more := range 4 {
			l = append(l, 1<<bits+more, -1<<bits+more)
		}
	}
	return l
}

// years is those at both ends, and of each kind, with what is none.
func years() []int {
	return append(oddInts(), 0, 1, 2, 3, 4, 5, 96, 99, 100, 101, 104, 199, 200, 300, 400, 401, 500, 800, 999, 1000, 1001, 1582, 1600, 1700, 1752, 1800, 1900, 1904,
		1968, 1969, 1970, 1971, 1972, 1999, 2000, 2001, 2023, 2024, 2025, 2026, 2100, 2200, 2400, 8000, 9600, 9900, 9995, 9996, 9997, 9998, 9999)
}

// daysOf is days of a month and others.
func daysOf() []int {
	l := oddInts()
	for d := range 40 {
		l = append(l, d)
	}
	return l
}

// oddNumbers is the least and the greatest numbers, those at which days and times end, and some of each length, drawn from a fixed seed.
func oddNumbers() []int64 {
	l := []int64{math.MinInt64, math.MaxInt64}
	draw := rand.New(rand.NewPCG(10, 1))
	for bits := range 63 {
		n := int64(1) << bits
		l = append(l, n, -n, n|draw.Int64N(n), -n-draw.Int64N(n))
	}
	for _, n := range []int64{0, firstDay, lastDay, firstTime, lastTime, daySecs, -daySecs, math.MinInt64 / daySecs, math.MaxInt64 / daySecs, math.MinInt64 + 20, math.MaxInt64 - 20} {
		for more := int64(-20); more <= 20; more++ {
			l = append(l, n+more)
		}
	}
	return l
}

// divided is a number divided by one above 0, rounded down, and what is left.
func divided(n, by int64) (int64, int64) {
	whole, left := new(big.Int).DivMod(big.NewInt(n), big.NewInt(by), new(big.Int))
	return whole.Int64(), left.Int64()
}

// TestLengthEdges (P10.1): the years of each kind, and what is no year or no month.
func TestLengthEdges(t *testing.T) {
	common := []int{31, 28, 31, 30, 31, 30, 31, 31, 30, 31, 30, 31}
	for _, c := range []struct {
		february int
		years    []int
	}{
		{28, []int{1, 2, 3, 5, 99, 101, 1970, 1999, 2001, 2023, 2025, 2026, 9997, 9998, 9999}},
		{29, []int{4, 8, 96, 104, 1972, 1996, 2004, 2024, 2028, 9992, 9996}},
		{28, []int{100, 200, 300, 500, 1700, 1800, 1900, 2100, 2200, 2300, 9700, 9800, 9900}},
		{29, []int{400, 800, 1200, 1600, 2000, 2400, 8000, 9200, 9600}},
	} {
		for _, y := range c.years {
			for i, want := range common {
				if i == 1 {
					want = c.february
				}
				if got := date.Length(y, i+1); got != want {
					t.Errorf("Length(%d, %d) = %d, want %d", y, i+1, got, want)
				}
			}
			for _, m := range []int{0, -1, -2, -11, 13, 14, 9999, 10000, math.MinInt, math.MaxInt} {
				if got := date.Length(y, m); got != 0 {
					t.Errorf("Length(%d, %d) = %d, want 0", y, m, got)
				}
			}
		}
	}
	for _, y := range []int{0, -1, -4, -400, 10000, 10001, 10004, 12000, math.MinInt, math.MaxInt} {
		for _, m := range []int{0, -1, 1, 2, 6, 12, 13, 9999, 10000, math.MinInt, math.MaxInt} {
			if got := date.Length(y, m); got != 0 {
				t.Errorf("Length(%d, %d) = %d, want 0", y, m, got)
			}
		}
	}
}

// TestLengthAll (P10.1): all years and months, and what lies beside them.
func TestLengthAll(t *testing.T) {
	l := oddInts()
	for m := range 16 {
		l = append(l, m)
	}
	ys := years()
	for y := -10; y < 10020; y++ {
		ys = append(ys, y)
	}
	for _, y := range ys {
		for _, m := range l {
			if got, want := date.Length(y, m), modelLength(y, m); got != want {
				t.Errorf("Length(%d, %d) = %d, want %d", y, m, got, want)
			}
		}
	}
}

// TestDaysKnown (P10.2): days that are known from elsewhere, there and back.
func TestDaysKnown(t *testing.T) {
	for c, n := range map[civil]int64{
		{1, 1, 1}:      -719162,
		{1, 1, 2}:      -719161,
		{1, 12, 31}:    -718798,
		{1582, 10, 15}: -141427,
		{1600, 2, 29}:  -135081,
		{1858, 11, 17}: -40587,
		{1900, 1, 1}:   -25567,
		{1900, 2, 28}:  -25509,
		{1900, 3, 1}:   -25508,
		{1969, 12, 31}: -1,
		{1970, 1, 1}:   0,
		{1970, 1, 2}:   1,
		{1970, 2, 1}:   31,
		{1971, 1, 1}:   365,
		{1972, 2, 29}:  789,
		{2000, 1, 1}:   10957,
		{2000, 2, 29}:  11016,
		{2000, 3, 1}:   11017,
		{2038, 1, 19}:  24855,
		{9999, 12, 30}: 2932895,
		{9999, 12, 31}: 2932896,
	} {
		if got, ok := date.Days(c.y, c.m, c.d); got != n || !ok {
			t.Errorf("Days(%v) = %d, %v, want %d", c, got, ok, n)
		}
		if y, m, d, ok := date.Civil(n); (civil{y, m, d}) != c || !ok {
			t.Errorf("Civil(%d) = %d, %d, %d, %v, want %v", n, y, m, d, ok, c)
		}
	}
}

// TestDaysEdges (P10.2): days 0, 1, Length and Length + 1 of each month there is, and what is no day of it.
func TestDaysEdges(t *testing.T) {
	n := int64(firstDay)
	for y := 1; y <= 9999; y++ {
		for m := 1; m <= 12; m++ {
			long := modelLength(y, m)
			for _, d := range []int{0, -1, long + 1, math.MinInt, math.MaxInt} {
				if got, ok := date.Days(y, m, d); got != 0 || ok {
					t.Errorf("Days(%d, %d, %d) = %d, %v, want 0, false", y, m, d, got, ok)
				}
			}
			for _, d := range []int{1, long} {
				if got, ok := date.Days(y, m, d); got != n+int64(d-1) || !ok {
					t.Errorf("Days(%d, %d, %d) = %d, %v, want %d, true", y, m, d, got, ok, n+int64(d-1))
				}
			}
			n += int64(long)
		}
	}
}

// TestDaysAny (P10.2): any numbers, against the library.
func TestDaysAny(t *testing.T) {
	for _, y := range years() {
		for _, m := range daysOf() {
			for _, d := range daysOf() {
				want, ok := int64(0), d >= 1 && d <= modelLength(y, m)
				if ok {
					want = time.Date(y, time.Month(m), d, 0, 0, 0, 0, time.UTC).Unix() / daySecs
				}
				if got, is := date.Days(y, m, d); got != want || is != ok {
					t.Errorf("Days(%d, %d, %d) = %d, %v, want %d, %v", y, m, d, got, is, want, ok)
				}
			}
		}
	}
}

// checkCivil asks of Civil a date.
func checkCivil(t *testing.T, n int64, want civil) {
	t.Helper()
	if y, m, d, ok := date.Civil(n); (civil{y, m, d}) != want || ok != (want != civil{}) {
		t.Errorf("Civil(%d) = %d, %d, %d, %v, want %v", n, y, m, d, ok, want)
	}
}

// TestCivilYears (P10.2): the first and the last day of all years, and the days ahead of and behind them.
func TestCivilYears(t *testing.T) {
	n := int64(firstDay)
	for y := 1; y <= 9999; y++ {
		ahead, behind := civil{y - 1, 12, 31}, civil{y + 1, 1, 1}
		if y == 1 {
			ahead = civil{}
		}
		if y == 9999 {
			behind = civil{}
		}
		last := n + 364
		if modelLength(y, 2) == 29 {
			last++
		}
		checkCivil(t, n-1, ahead)
		checkCivil(t, n, civil{y, 1, 1})
		checkCivil(t, n+1, civil{y, 1, 2})
		checkCivil(t, last-1, civil{y, 12, 30})
		checkCivil(t, last, civil{y, 12, 31})
		checkCivil(t, last+1, behind)
		n = last + 1
	}
	if n != lastDay+1 {
		t.Errorf("the years end ahead of %d", n)
	}
}

// TestCivilBeyond (P10.2): numbers of no day.
func TestCivilBeyond(t *testing.T) {
	for _, n := range oddNumbers() {
		if n < firstDay || n > lastDay {
			checkCivil(t, n, civil{})
		}
	}
	for _, n := range []int64{math.MinInt64, math.MinInt64 + 1, firstDay - 2, firstDay - 1, lastDay + 1, lastDay + 2, math.MaxInt64 - 1, math.MaxInt64, 1 << 32, -1 << 32} {
		checkCivil(t, n, civil{})
	}
}

// TestEveryDay (P10.2, P10.3, P10.6, P10.8, P10.9): each day is the next date of the one ahead of it, its weekday one more; it is written, and read.
func TestEveryDay(t *testing.T) {
	c, weekday, stood := civil{1, 1, 1}, 0, ""
	for n := int64(firstDay); n <= lastDay; n++ {
		checkCivil(t, n, c)
		if got, ok := date.Days(c.y, c.m, c.d); got != n || !ok {
			t.Errorf("Days(%v) = %d, %v, want %d", c, got, ok, n)
		}
		if got := date.Weekday(n); got != weekday {
			t.Errorf("Weekday(%d) = %d, want %d", n, got, weekday)
		}
		s := date.Day(n)
		if want := eight(c); s != want || s <= stood {
			t.Errorf("Day(%d) = %q behind %q, want %q", n, s, stood, want)
		}
		if got, e := date.ReadDay(s); got != n || e != api.OK {
			t.Errorf("ReadDay(%q) = %d, %d, want %d", s, got, e, n)
		}
		if t.Failed() {
			t.FailNow() // millions of others would follow
		}
		c, weekday, stood = next(c), (weekday+1)%7, s
	}
	if (c != civil{10000, 1, 1}) || weekday != 5 {
		t.Errorf("behind the last day is %v, a weekday %d", c, weekday)
	}
}

// eight is a date in eight digits.
func eight(c civil) string {
	b := make([]byte, 8)
	for i, n := 7, c.y*10000+c.m*100+c.d; i >= 0; i, n = i-1, n/10 {
		b[i] = '0' + byte(n%10)
	}
	return string(b)
}

// TestWeekdayKnown (P10.3): days that are known from elsewhere.
func TestWeekdayKnown(t *testing.T) {
	for n, want := range map[int64]int{
		0:       3, // 1970-01-01, a Thursday
		1:       4,
		2:       5,
		3:       6,
		4:       0,
		7:       3,
		-1:      2,
		-2:      1,
		-3:      0,
		-4:      6,
		-7:      3,
		11016:   1, // 2000-02-29, a Tuesday
		9075:    6, // 1994-11-06, a Sunday
		-141427: 4, // 1582-10-15, a Friday
		-719162: 0, // 0001-01-01, a Monday
		-719163: 6,
		2932896: 4, // 9999-12-31, a Friday
		2932897: 5,

		math.MaxInt64:     3, // 2^63 - 1 is 7 times 1317624576693539401
		math.MaxInt64 - 1: 2,
		math.MinInt64:     2,
		math.MinInt64 + 1: 3,
	} {
		if got := date.Weekday(n); got != want {
			t.Errorf("Weekday(%d) = %d, want %d", n, got, want)
		}
	}
}

// TestWeekdayAny (P10.3, P10.9): any numbers, and the one behind.
func TestWeekdayAny(t *testing.T) {
	for _, n := range oddNumbers() {
		_, left := divided(n, 7)
		if got, want := date.Weekday(n), int(left+3)%7; got != want {
			t.Errorf("Weekday(%d) = %d, want %d", n, got, want)
		}
		if n < math.MaxInt64 && date.Weekday(n+1) != (date.Weekday(n)+1)%7 {
			t.Errorf("Weekday(%d) = %d, and behind it %d", n, date.Weekday(n), date.Weekday(n+1))
		}
	}
}

// TestIn (P10.4): both ends, what lies beside them, and any numbers.
func TestIn(t *testing.T) {
	for n, want := range map[int64]bool{
		-62135596802:      false,
		-62135596801:      false,
		-62135596800:      true,
		-62135596799:      true,
		-1:                true,
		0:                 true,
		1:                 true,
		253402300798:      true,
		253402300799:      true,
		253402300800:      false,
		253402300801:      false,
		math.MinInt64:     false,
		math.MinInt64 + 1: false,
		math.MaxInt64:     false,
		math.MaxInt64 - 1: false,
		-1 << 40:          false,
		1 << 40:           false,
		-1 << 32:          true,
		1 << 32:           true,
		lastDay * daySecs: true,
	} {
		if got := date.In(n); got != want {
			t.Errorf("In(%d) = %v, want %v", n, got, want)
		}
	}
	for _, n := range oddNumbers() {
		if got, want := date.In(n), n >= firstTime && n <= lastTime; got != want {
			t.Errorf("In(%d) = %v, want %v", n, got, want)
		}
	}
}

// TestPartsEdges (P10.4): whole days, one second less and one more, the greatest and the least numbers.
func TestPartsEdges(t *testing.T) {
	for n, want := range map[int64][2]int64{
		0:             {0, 0},
		1:             {0, 1},
		-1:            {-1, 86399},
		86399:         {0, 86399},
		86400:         {1, 0},
		86401:         {1, 1},
		-86399:        {-1, 1},
		-86400:        {-1, 0},
		-86401:        {-2, 86399},
		-172799:       {-2, 1},
		-172800:       {-2, 0},
		-172801:       {-3, 86399},
		784111777:     {9075, 31777},
		firstTime - 1: {firstDay - 1, 86399},
		firstTime:     {firstDay, 0},
		firstTime + 1: {firstDay, 1},
		lastTime - 1:  {lastDay, 86398},
		lastTime:      {lastDay, 86399},
		lastTime + 1:  {lastDay + 1, 0},

		math.MaxInt64:              {106751991167300, 55807},
		math.MaxInt64 - 55807:      {106751991167300, 0},
		math.MaxInt64 - 55808:      {106751991167299, 86399},
		math.MinInt64:              {-106751991167301, 30592},
		math.MinInt64 + 1:          {-106751991167301, 30593},
		math.MinInt64 + 55807:      {-106751991167301, 86399},
		math.MinInt64 + 55807 + 1:  {-106751991167300, 0},
		-106751991167300*86400 + 1: {-106751991167300, 1},
	} {
		if day, sec := date.Parts(n); day != want[0] || sec != want[1] {
			t.Errorf("Parts(%d) = %d, %d, want %v", n, day, sec, want)
		}
	}
}

// TestPartsAny (P10.4): any numbers, and whole days of any sign.
func TestPartsAny(t *testing.T) {
	l := oddNumbers()
	draw := rand.New(rand.NewPCG(10, 2))
	for range 20000 {
		n := (draw.Int64N(1<<40) - 1<<39) * daySecs
		l = append(l, n-1, n, n+1, draw.Int64(), -draw.Int64())
	}
	for _, n := range l {
		wantDay, wantSec := divided(n, daySecs)
		if day, sec := date.Parts(n); day != wantDay || sec != wantSec {
			t.Errorf("Parts(%d) = %d, %d, want %d, %d", n, day, sec, wantDay, wantSec)
		}
	}
}
