package recur_test

import (
	"math"
	"testing"
	"time"

	"almanac/api"
	"almanac/recur"
)

// modelNth goes through a month day by day as the library has it, from ahead or from behind.
func modelNth(y, m int, d api.WDay) (int64, bool) {
	if y < 1 || y > 9999 || m < 1 || m > 12 || d.N == 0 {
		return 0, false
	}
	day, step := time.Date(y, time.Month(m), 1, 12, 0, 0, 0, time.UTC), 1
	if d.N < 0 {
		day, step = day.AddDate(0, 1, -1), -1
	}
	count := 0
	for ; day.Month() == time.Month(m); day = day.AddDate(0, 0, step) {
		if (int(day.Weekday())+6)%7 == d.Day {
			count += step
		}
		if count == d.N {
			return (day.Unix()-firstTime)/daySecs + firstDay, true
		}
	}
	return 0, false
}

// nthLikeModel holds Nth against the model.
func nthLikeModel(t *testing.T, y, m int, d api.WDay) {
	t.Helper()
	want, ok := modelNth(y, m, d)
	isNth(t, y, m, d, want, ok)
}

// isNth asks for this one of Nth.
func isNth(t *testing.T, y, m int, d api.WDay, want int64, ok bool) {
	t.Helper()
	if got, is := recur.Nth(y, m, d); got != want || is != ok {
		t.Errorf("Nth(%d, %d, %v) = %d, %v, want %d, %v", y, m, d, got, is, want, ok)
	}
}

// TestNth (P15.3): days of months of each length that are known from elsewhere.
func TestNth(t *testing.T) {
	for _, one := range []struct {
		y, m int
		d    api.WDay
		want string
	}{
		{2025, 2, api.WDay{N: -1, Day: 4}, "20250228"},
		{2025, 2, api.WDay{N: 1, Day: 5}, "20250201"},
		{2025, 2, api.WDay{N: 4, Day: 4}, "20250228"},
		{2025, 2, api.WDay{N: 5, Day: 4}, ""},
		{2025, 2, api.WDay{N: -4, Day: 5}, "20250201"},
		{2025, 2, api.WDay{N: -5, Day: 5}, ""},
		{2024, 2, api.WDay{N: 5, Day: 3}, "20240229"},
		{2024, 2, api.WDay{N: -5, Day: 3}, "20240201"},
		{2024, 2, api.WDay{N: 5, Day: 4}, ""},
		{2025, 4, api.WDay{N: 5, Day: 1}, "20250429"},
		{2025, 4, api.WDay{N: 5, Day: 2}, "20250430"},
		{2025, 4, api.WDay{N: 5, Day: 3}, ""},
		{2025, 4, api.WDay{N: -5, Day: 2}, "20250402"},
		{2025, 10, api.WDay{N: 5, Day: 4}, "20251031"},
		{2025, 10, api.WDay{N: 5, Day: 5}, ""},
		{2025, 10, api.WDay{N: -1, Day: 6}, "20251026"},
		{2025, 3, api.WDay{N: -1, Day: 6}, "20250330"},
		{2025, 3, api.WDay{N: 2, Day: 6}, "20250309"},
		{2025, 10, api.WDay{N: 6, Day: 4}, ""},
		{2025, 10, api.WDay{N: -6, Day: 4}, ""},
		{2025, 10, api.WDay{N: 0, Day: 4}, ""},
		{1, 1, api.WDay{N: 1, Day: 0}, "00010101"},
		{9999, 12, api.WDay{N: -1, Day: 4}, "99991231"},
	} {
		if one.want == "" {
			isNth(t, one.y, one.m, one.d, 0, false)
		} else {
			isNth(t, one.y, one.m, one.d, at(one.want)/daySecs, true)
		}
		nthLikeModel(t, one.y, one.m, one.d)
	}
}

// TestNthAll (P15.3): each N in months of each length and with each first weekday, months and weekdays that are none, years beside both ends.
func TestNthAll(t *testing.T) {
	years := []int{-1, 0, 1, 2, 4, 1582, 1900, 1969, 1970, 2000, 2100, 9998, 9999, 10000, 10001}
	for y := 2001; y <= 2028; y++ { // each year there can be
		years = append(years, y)
	}
	for _, y := range years {
		for m := -1; m <= 14; m++ {
			for day := -2; day <= 9; day++ {
				for n := -7; n <= 7; n++ {
					nthLikeModel(t, y, m, api.WDay{N: n, Day: day})
				}
			}
		}
	}
}

// TestNthBounds (P15.3): numbers at the bounds of int, and those that are small ones when cut off or turned.
func TestNthBounds(t *testing.T) {
	far := []int{math.MinInt, math.MinInt + 1, math.MinInt32, -1 << 40, -1<<32 + 1, -53, -14, 53, 14, 1<<32 + 1, 1 << 40, math.MaxInt32, math.MaxInt - 1, math.MaxInt}
	for _, n := range far {
		isNth(t, n, 1, api.WDay{N: 1}, modelDay(n, 1, api.WDay{N: 1}), n == 53 || n == 14)
		isNth(t, 2025, n, api.WDay{N: 1}, 0, false)
		isNth(t, 2025, 1, api.WDay{N: n}, 0, false)
		isNth(t, 2025, 1, api.WDay{N: 1, Day: n}, 0, false)
		isNth(t, 2025, 1, api.WDay{N: -1, Day: n}, 0, false)
		isNth(t, n, n, api.WDay{N: n, Day: n}, 0, false)
	}
}

// modelDay is the day that the model tells.
func modelDay(y, m int, d api.WDay) int64 {
	n, _ := modelNth(y, m, d)
	return n
}
