package value_test

import (
	"fmt"
	"math"
	"strings"
	"testing"

	"almanac/api"
	"almanac/value"
)

// TestDuration (P13.1): each part alone, each order that may be, signs, and numbers of 1 to 7 digits.
func TestDuration(t *testing.T) {
	for _, c := range []struct {
		s    string
		want int64
	}{
		{"P1W", 604800},
		{"P1D", 86400},
		{"PT1H", 3600},
		{"PT1M", 60},
		{"PT1S", 1},
		{"P2W", 1209600},
		{"P15DT5H0M20S", 1314020}, // with all parts that may stand together
		{"P7W", 4233600},
		{"P1DT2H", 93600},
		{"P1DT2M", 86520},
		{"P1DT2S", 86402},
		{"P1DT2H3M", 93780},
		{"P1DT2M3S", 86523},
		{"P1DT2H3M4S", 93784},
		{"PT2H3M", 7380},
		{"PT2M3S", 123},
		{"PT2H3M4S", 7384},
		{"PT1H0M5S", 3605},
		{"P0W", 0},
		{"P0D", 0},
		{"PT0H", 0},
		{"PT0M", 0},
		{"PT0S", 0},
		{"P0DT0H0M0S", 0},
		{"P0DT1S", 1},
		{"PT0H0M1S", 1},
		{"PT25H", 90000}, // more than there are in the next greater part
		{"PT61M", 3660},
		{"PT61S", 61},
		{"PT90M90S", 5490},
		{"P8DT24H60M60S", 781260},
		{"P9W", 5443200},
		{"PT7S", 7},
		{"P01W", 604800}, // noughts ahead
		{"P0000001W", 604800},
		{"P0000000D", 0},
		{"PT0000009S", 9},
		{"P0000001DT0000002H0000003M0000004S", 93784},
		{"P9999999W", 6047999395200}, // 7 digits
		{"P9999999D", 863999913600},
		{"PT9999999H", 35999996400},
		{"PT9999999M", 599999940},
		{"PT9999999S", 9999999},
		{"P9999999DT9999999H9999999M9999999S", 900609909939},
		{"PT1234567S", 1234567},
		{"PT8901234S", 8901234},
		{"P1000000D", 86400000000},
	} {
		checkDuration(t, c.s, c.want, api.OK)
		checkDuration(t, "+"+c.s, c.want, api.OK)
		checkDuration(t, "-"+c.s, -c.want, api.OK)
	}
}

// TestDurationNone (P13.1): what is none, with and without signs.
func TestDurationNone(t *testing.T) {
	for _, s := range []string{
		"", "P", "PT", "T", "W", "1", "1W", "1D", "T1H", "T1S", "PP", "PP1D", "PTT", "PTT1H", "PT1HT", "PT1HT1M", "PT1HT1H",
		"P1DT", "P1DTT1S", "P1DT1HT", "P1WT", "P1WT1H", "P1WT1S", "P1W1D", "P1W1DT1H", "P1D1W", "P1W1W", "P1D1D", "P1DT1D", "P1DT1W", "PT1W", "PT1D", "PT1H1W", "PT1S1D",
		"PT1H1S", "PT1H5S", "P1DT1H5S", "PT1M1H", "PT1S1M", "PT1S1H", "PT1M1S1H", "PT1S1M1H", "PT1H1S1M", "PT1M1H1S", "PT1S1H1M", "PT1H1H", "PT1M1M", "PT1S1S", "PT1H1M1M", "PT1H1M1H", "PT1H1M1S1S",
		"P1H", "P1M", "P1S", "P1H1M1S", "P1D1H", "P1D1M", "P1D1S", "P1Y", "P1M1D", "P1Y1D", "PT1D1H", "P1TD", "P1T1D", "P1T1H", "P1T", "PT1T1H",
		"PW", "PD", "PTH", "PTM", "PTS", "P1DTH", "P1DTM", "P1DTS", "PT1HM", "PT1HS", "PT1MS", "PDT1H", "PTHMS", "PT1H1MS", "PT1HM1S", // no digits
		"P1", "PT1", "P1D1", "P1DT1", "P1W1", "PT1H1", "PT1H1M1", "PT1H1M1S1", "P12", "P1234567", "PT12345678", // no letter
		"P12345678W", "P12345678D", "PT12345678H", "PT12345678M", "PT12345678S", "P00000001W", "P00000000D", "PT00000000H", "PT00000000M", "PT00000000S", // 8 digits
		"P1DT1H1M12345678S", "P1DT1H12345678M1S", "P1DT12345678H1M1S", "P12345678DT1H1M1S", "P9223372036854775808W", "PT18446744073709551617S", "PT1000000000000000000S",
		"p1d", "p1D", "P1d", "P1w", "Pt1H", "PT1h", "PT1m", "PT1s", "pt1h1m1s", "P1dT1H", "P1Dt1H", // small letters
		"P1D ", " P1D", "P 1D", "P1 D", "P1D T1H", "PT1H 1M", "P1DX", "P1D0", "P1D.", "P1D\n", "\nP1D", "P1D\x00", "P1D\xff", "PT1S;", "P1WP1W", "P1D,P1D", "P1D/P1D", "PT1HZ", "P1W\x00", "PT1S\x00", // bytes behind
		"P+1D", "P-1D", "PT+1H", "PT-1S", "P1D+T1H", "P1DT+1H", "P1DT-1H", "P1D-", "P1D+", "PT1H+1M", "P-", "P+", "PT-", "-PT", // signs within
		"P1.5D", "PT1.5S", "PT1,5S", "P1e1D", "P0x1D", "P1_0D", "P\u0661D", "P\uff11D", "\uff301D", "P1\u2009D", "P\x001D", "PT\x00S", "P1\x00D",
		"P" + strings.Repeat("1", 1000000) + "D", "P" + strings.Repeat("1D", 500000), "PT" + strings.Repeat("1H1M", 250000), strings.Repeat("P", 1000000), "P" + strings.Repeat("T", 1000000), "P1D" + strings.Repeat(" ", 1000000),
	} {
		for _, sign := range []string{"", "+", "-", "++", "--", "+-", "-+"} {
			checkDuration(t, sign+s, 0, api.ErrForm)
		}
	}
	for _, s := range []string{"P1D", "PT0S", "P1W", "P1DT2H3M4S", "PT5M"} {
		for _, sign := range []string{"++", "--", "+-", "-+", " ", " -", "- ", "\u2212", "+ ", "-\x00", "_", "~", ",", ".", "*", "/"} {
			checkDuration(t, sign+s, 0, api.ErrForm)
		}
		checkDuration(t, s+"-", 0, api.ErrForm)
		checkDuration(t, s+"+", 0, api.ErrForm)
		checkDuration(t, strings.ToLower(s), 0, api.ErrForm)
	}
}

// TestDurationOrders (P13.1): all orders of up to five parts, each with a number of its own, one of no digit, one of 8.
func TestDurationOrders(t *testing.T) {
	for _, s := range short(5, "2W", "3D", "T", "5H", "7M", "11S") {
		for _, sign := range []string{"", "+", "-"} {
			n, e := modelDuration(sign + "P" + s)
			checkDuration(t, sign+"P"+s, n, e)
		}
	}
	for _, s := range short(4, "W", "9999999D", "T", "00000005H", "007M", "11", "1S") {
		n, e := modelDuration("P" + s)
		checkDuration(t, "P"+s, n, e)
	}
}

// TestDurationShort (P13.1): all short texts of the bytes that matter.
func TestDurationShort(t *testing.T) {
	for _, s := range short(6, "P", "T", "W", "D", "H", "M", "S", "1") {
		n, e := modelDuration("P" + s)
		checkDuration(t, "P"+s, n, e)
	}
	for _, s := range short(5, "P", "T", "D", "S", "0", "9", "+", "-", "\x00") {
		n, e := modelDuration(s)
		checkDuration(t, s, n, e)
	}
}

// TestDurationChanged (P13.1): right texts with each byte another one, one more or fewer.
func TestDurationChanged(t *testing.T) {
	for _, right := range []string{"P1W", "-P20D", "+PT3H", "PT40M", "-PT5S", "P1234567W", "P1DT2H3M4S", "-P1DT2M3S", "PT1H0M5S", "+P0000001DT0000002H0000003M0000004S"} {
		for _, s := range changed(right) {
			n, e := modelDuration(s)
			checkDuration(t, s, n, e)
		}
	}
}

// TestDurationText (P13.1): each part alone, each row of parts, multiples of a week, and the ends.
func TestDurationText(t *testing.T) {
	for _, c := range []struct {
		n    int64
		want string
	}{
		{1, "PT1S"},
		{59, "PT59S"},
		{60, "PT1M"},
		{61, "PT1M1S"},
		{3599, "PT59M59S"},
		{3600, "PT1H"},
		{3601, "PT1H0M1S"},
		{3605, "PT1H0M5S"},
		{3660, "PT1H1M"},
		{3661, "PT1H1M1S"},
		{36000, "PT10H"},
		{82800, "PT23H"},
		{82801, "PT23H0M1S"},
		{86399, "PT23H59M59S"},
		{86400, "P1D"},
		{86401, "P1DT1S"},
		{86460, "P1DT1M"},
		{86461, "P1DT1M1S"},
		{90000, "P1DT1H"},
		{90001, "P1DT1H0M1S"},
		{90060, "P1DT1H1M"},
		{90061, "P1DT1H1M1S"},
		{172799, "P1DT23H59M59S"},
		{172800, "P2D"},
		{518400, "P6D"},
		{604799, "P6DT23H59M59S"},
		{604800, "P1W"},
		{604801, "P7DT1S"},
		{604860, "P7DT1M"},
		{608400, "P7DT1H"},
		{691200, "P8D"},
		{1209599, "P13DT23H59M59S"},
		{1209600, "P2W"},
		{1209601, "P14DT1S"},
		{1296000, "P15D"},
		{6048000, "P10W"},
		{864000, "P10D"},
		{8640000, "P100D"},
		{604800000, "P1000W"},
		{999734400, "P1653W"}, // the last multiple of a week
		{999734401, "P11571DT1S"},
		{999993600, "P11574D"},
		{999999999, "P11574DT1H46M39S"},
		{1000000000, "P11574DT1H46M40S"},
		{1000000001, ""},
		{1000339200, ""}, // the next multiple of a week
		{1 << 32, ""},
		{1<<32 + 60, ""},
		{math.MaxInt64 - 1, ""},
		{math.MaxInt64, ""},
		{math.MaxInt64 / 604800 * 604800, ""},
	} {
		checkDurationText(t, c.n, c.want)
		if c.want != "" {
			c.want = "-" + c.want
		}
		checkDurationText(t, -c.n, c.want)
	}
	checkDurationText(t, 0, "PT0S")
	checkDurationText(t, math.MinInt64, "")
	checkDurationText(t, math.MinInt64+1, "")
	checkDurationText(t, math.MinInt64/604800*604800, "")
}

// TestDurationTextAny (P13.1, P13.7): all seconds of some days, what lies beside all weeks, and drawn ones.
func TestDurationTextAny(t *testing.T) {
	check := func(n int64) {
		t.Helper()
		checkDurationText(t, n, modelDurationText(n))
		checkDurationText(t, -n, modelDurationText(-n))
	}
	for n := range int64(3*daySecs + 2) {
		check(n)
	}
	for n := int64(0); n <= most+weekSecs; n += weekSecs {
		for more := range int64(7) {
			for _, beside := range []int64{-3600, -60, -1, 0, 1, 59, 60, 61, 3599, 3600, 3601, 3660} {
				check(n + more*daySecs + beside)
			}
		}
	}
	draw := newDraw(1)
	for range 200000 {
		check(draw.Int64N(most + 1))
		check(drawn(draw))
	}
	for n := int64(-2000); n <= 2000; n++ {
		check(most + n)
	}
}

// TestDurationBack (P13.1, P13.7): what is read is written so that it is read as the same, if it may be written.
func TestDurationBack(t *testing.T) {
	draw := newDraw(2)
	number := func() string {
		return fmt.Sprintf("%0*d", draw.IntN(8), draw.IntN([]int{1, 2, 10, 61, 10000, 10000000}[draw.IntN(6)]))
	}
	for range 200000 {
		s := []string{"", "+", "-"}[draw.IntN(3)] + "P"
		clock := []string{"%sH", "%sH%sM", "%sH%sM%sS", "%sM", "%sM%sS", "%sS"}[draw.IntN(6)]
		form := []string{"%sW", "%sD", "%sDT" + clock, "T" + clock}[draw.IntN(4)]
		for {
			ahead, behind, ok := strings.Cut(form, "%s")
			s += ahead
			if !ok {
				break
			}
			s += number()
			form = behind
		}
		n, e := modelDuration(s)
		if e != api.OK {
			t.Errorf("the model has %q as none", s)
		}
		checkDuration(t, s, n, api.OK)
		checkDurationText(t, n, modelDurationText(n))
		if again, e := value.Duration(value.DurationText(n)); n >= -most && n <= most && (again != n || e != api.OK) {
			t.Errorf("Duration(%q) = %d, but behind DurationText %d, %d", s, n, again, e)
		}
	}
}
