package value_test

import (
	"fmt"
	"math"
	"strings"
	"testing"

	"almanac/api"
)

// TestOffset (P13.2): what is one, and what each digit counts.
func TestOffset(t *testing.T) {
	for _, c := range []struct {
		s    string
		want int64
	}{
		{"+0000", 0},
		{"+000000", 0},
		{"+0001", 60},
		{"-0001", -60},
		{"+000001", 1},
		{"-000001", -1},
		{"+000010", 10},
		{"-000010", -10},
		{"+000100", 60},
		{"-000100", -60},
		{"+001000", 600},
		{"+010000", 3600},
		{"-010000", -3600},
		{"+100000", 36000},
		{"+0010", 600},
		{"+0100", 3600},
		{"-0100", -3600},
		{"+1000", 36000},
		{"+0130", 5400},
		{"-0130", -5400},
		{"+0530", 19800},
		{"-0500", -18000},
		{"+1400", 50400},
		{"+0059", 3540},
		{"-0059", -3540},
		{"+000059", 59},
		{"-000059", -59},
		{"+2300", 82800},
		{"-2300", -82800},
		{"+2359", 86340},
		{"-2359", -86340},
		{"+235900", 86340},
		{"+235959", 86399},
		{"-235959", -86399},
		{"+123456", 45296},
		{"-123456", -45296},
		{"+1900", 68400},
		{"+2000", 72000},
	} {
		checkOffset(t, c.s, c.want, api.OK)
	}
}

// TestOffsetNone (P13.2): what is none: each length, hours, minutes and seconds too great, noughts below 0, other bytes.
func TestOffsetNone(t *testing.T) {
	for _, s := range []string{
		"", "+", "-", "0", "+0", "-0", "+1", "+00", "-00", "+01", "-01", "+000", "-000", "+010", "-010", "+00000", "-00000", "+01000", "-01000", "+01300",
		"+0000000", "-0000000", "+0100000", "-0100000", "+01000000", "+00000000", "-010000000",
		"-0000", "-000000",
		"0000", "000000", "0130", "1", "01", "013", "01300", "013000", "0130000", // no sign
		"+2400", "-2400", "+2401", "+2500", "+2900", "+3000", "+9900", "+240000", "-240000", "+240001", "+990000",
		"+0060", "-0060", "+0061", "+0099", "+0160", "-0160", "+2360", "+006000", "-006000", "+009900", "+016000",
		"+000060", "-000060", "+000061", "+000099", "+010060", "-010060", "+235960", "-235960", "+236000", "+246060",
		"Z", "z", "UTC", "GMT", "+Z", "+01:30", "-01:30", "+01:00:00", "+1:30", "+1.30", "+01h0", "+0a00", "+a000", "+00a0", "+000a", "+0000a0", "+00000a", "+00000Z", "+0000Z", "A0100", "P0100", " 0100",
		"++100", "+-100", "-+100", "--100", "+0+00", "+00+0", "+00-1", "+000+", "+000-", "+0100+0", "+0100-1", "+01000-", "++0100", "--0100", "+-0100", "-+0100", "+0100+", "+0100-",
		" +0100", "+0100 ", "+ 100", "+01 0", "+010 ", "+0100\n", "\n+0100", "+0100\x00", "+0100\r", "\x00+0100", "+0100,", "+0100 0", "+0100  ", "+0100\x00\x00", "+\x000100", "+T100",
		"\u22120100", "+\u0661000", "+\uff101", "\uff0b0100", "+0x01", "+1e01", "+0_00", "+01_0", "+00T0", "T+0100", "+19700101T0100", "19700101T0100", "+19700101T010000",
		strings.Repeat("+", 1000000), strings.Repeat("0", 1000000), "+" + strings.Repeat("0", 1000000), "-01" + strings.Repeat("0", 1000000),
	} {
		checkOffset(t, s, 0, api.ErrForm)
	}
}

// TestOffsetAll (P13.2, P13.7): all hours, minutes and seconds of two digits, with each sign; and all offsets that there are, written too.
func TestOffsetAll(t *testing.T) {
	for n := range 1000000 {
		for _, sign := range []string{"+", "-"} {
			s := sign + fmt.Sprintf("%06d", n)
			want, e := modelOffset(s)
			checkOffset(t, s, want, e)
			if n%100 == 0 {
				want, e = modelOffset(s[:5])
				checkOffset(t, s[:5], want, e)
			}
		}
	}
	for s, n := range offsets() {
		checkOffset(t, s, n, api.OK)
		checkOffsetText(t, n, modelOffsetText(n))
	}
}

// TestOffsetChanged (P13.2): right texts with each byte another one, one more or fewer; all short texts of the bytes that matter.
func TestOffsetChanged(t *testing.T) {
	l := short(6, "+", "-", "0", "1", "6", "Z")
	for _, right := range []string{"+0000", "+000000", "-0001", "-000001", "+2359", "-2300", "+235959", "-0130", "+123456", "-0059", "+000059"} {
		l = append(l, changed(right)...)
	}
	for _, s := range append(l, changed("-000000")...) {
		n, e := modelOffset(s)
		checkOffset(t, s, n, e)
	}
}

// TestOffsetText (P13.2): whole hours, minutes, seconds, and the ends.
func TestOffsetText(t *testing.T) {
	for _, c := range []struct {
		n    int64
		want string
	}{
		{1, "000001"},
		{59, "000059"},
		{60, "0001"},
		{61, "000101"},
		{600, "0010"},
		{3540, "0059"},
		{3599, "005959"},
		{3600, "0100"},
		{3601, "010001"},
		{3660, "0101"},
		{5400, "0130"},
		{18000, "0500"},
		{19800, "0530"},
		{36000, "1000"},
		{45296, "123456"},
		{82800, "2300"},
		{86340, "2359"},
		{86399, "235959"},
	} {
		checkOffsetText(t, c.n, "+"+c.want)
		checkOffsetText(t, -c.n, "-"+c.want)
	}
	checkOffsetText(t, 0, "+0000")
	for _, n := range []int64{86400, 86401, 86460, 90000, 172800, 1 << 31, 1 << 32, 1<<32 + 60, lastTime, lastTime + 1, math.MaxInt64 - 1, math.MaxInt64} {
		checkOffsetText(t, n, "")
		checkOffsetText(t, -n, "")
	}
	for n := range int64(100) {
		checkOffsetText(t, math.MinInt64+n, "")
		checkOffsetText(t, firstTime+n, "")
	}
}

// TestOffsetTextAny (P13.2, P13.7): all of less than a day, what lies beyond, and drawn ones.
func TestOffsetTextAny(t *testing.T) {
	for n := int64(-100000); n <= 100000; n++ {
		checkOffsetText(t, n, modelOffsetText(n))
	}
	draw := newDraw(3)
	for range 100000 {
		n := drawn(draw)
		checkOffsetText(t, n, modelOffsetText(n))
	}
}
