package date_test

import (
	"cmp"
	"fmt"
	"math"
	"math/rand/v2"
	"strings"
	"testing"
	"time"

	"almanac/api"
	"almanac/date"
)

// form is one of the ways in which times, or days, are written: by the library's layout; a number is so many seconds.
type form struct {
	name   string
	layout string
	secs   int64
	write  func(int64) string
	read   func(string) (int64, api.Errno)
}

// forms is all of them.
func forms() []form {
	return []form{
		{"Stamp", "20060102T150405", 1, date.Stamp, date.ReadStamp},
		{"Day", "20060102", daySecs, date.Day, date.ReadDay},
		{"Http", "Mon, 02 Jan 2006 15:04:05 GMT", 1, date.Http, date.ReadHttp},
	}
}

// written is what the library writes; "", if it is beyond the years.
func (f form) written(n int64) string {
	if n < firstTime/f.secs || n > lastTime/f.secs {
		return ""
	}
	return time.Unix(n*f.secs, 0).UTC().Format(f.layout)
}

// told is what a text tells, if the library writes just that.
func (f form) told(s string) (int64, api.Errno) {
	x, err := time.Parse(f.layout, s)
	if err != nil || x.Year() < 1 || x.Year() > 9999 || x.Format(f.layout) != s {
		return 0, api.ErrForm
	}
	return x.Unix() / f.secs, api.OK
}

// checkRead holds what a text is read as against the library.
func (f form) checkRead(t *testing.T, s string) {
	t.Helper()
	want, wantE := f.told(s)
	if got, e := f.read(s); got != want || e != wantE {
		t.Errorf("Read%s(%q) = %d, %d, want %d, %d", f.name, s, got, e, want, wantE)
	}
}

// checkWritten holds what a number is written as against the library, and reads it.
func (f form) checkWritten(t *testing.T, n int64) {
	t.Helper()
	s := f.write(n)
	if want := f.written(n); s != want {
		t.Errorf("%s(%d) = %q, want %q", f.name, n, s, want)
	}
	if got, e := f.read(s); s != "" && (got != n || e != api.OK) {
		t.Errorf("Read%s(%q) = %d, %d, want %d", f.name, s, got, e, n)
	}
}

// right is texts of each form that may be: of years of one to four digits, of each month's name and each weekday's, at the ends of days, months and years.
func (f form) right() []string {
	var l []string
	for _, s := range []string{
		"00010101T000000", "00010102T235959", "00090909T090909", "00991231T235959", "01000228T100000", "02000301T010101", "08000229T121212", "09991231T235959",
		"10000101T000000", "15821015T111111", "16000229T222222", "19000228T235959", "19691231T235959", "19700101T000000", "19941106T084937", "20000229T000001",
		"20240131T101010", "20240229T101010", "20240331T101010", "20240430T101010", "20240531T101010", "20240630T101010", "20240731T101010", "20240831T101010",
		"20240930T101010", "20241031T101010", "20241130T101010", "20241231T101010", "20250228T195900", "20261120T203011", "99991231T235959", "99990101T000000",
	} {
		x, err := time.Parse("20060102T150405", s)
		if err != nil {
			panic(err)
		}
		l = append(l, x.Format(f.layout))
	}
	return l
}

// TestWriteEdges (P10.5, P10.6, P10.7): the ends, what lies beside them, and years of one to four digits.
func TestWriteEdges(t *testing.T) {
	for _, c := range []struct {
		n           int64
		stamp, http string
	}{
		{math.MinInt64, "", ""},
		{math.MinInt64 + 1, "", ""},
		{firstTime - daySecs, "", ""},
		{firstTime - 2, "", ""},
		{firstTime - 1, "", ""},
		{firstTime, "00010101T000000", "Mon, 01 Jan 0001 00:00:00 GMT"},
		{firstTime + 1, "00010101T000001", "Mon, 01 Jan 0001 00:00:01 GMT"},
		{-61883136001, "00081231T235959", "Wed, 31 Dec 0008 23:59:59 GMT"},
		{-59011459201, "00991231T235959", "Thu, 31 Dec 0099 23:59:59 GMT"},
		{-59011459200, "01000101T000000", "Fri, 01 Jan 0100 00:00:00 GMT"},
		{-30610224001, "09991231T235959", "Tue, 31 Dec 0999 23:59:59 GMT"},
		{-30610224000, "10000101T000000", "Wed, 01 Jan 1000 00:00:00 GMT"},
		{-1, "19691231T235959", "Wed, 31 Dec 1969 23:59:59 GMT"},
		{0, "19700101T000000", "Thu, 01 Jan 1970 00:00:00 GMT"},
		{1, "19700101T000001", "Thu, 01 Jan 1970 00:00:01 GMT"},
		{59, "19700101T000059", "Thu, 01 Jan 1970 00:00:59 GMT"},
		{60, "19700101T000100", "Thu, 01 Jan 1970 00:01:00 GMT"},
		{3599, "19700101T005959", "Thu, 01 Jan 1970 00:59:59 GMT"},
		{3600, "19700101T010000", "Thu, 01 Jan 1970 01:00:00 GMT"},
		{86399, "19700101T235959", "Thu, 01 Jan 1970 23:59:59 GMT"},
		{86400, "19700102T000000", "Fri, 02 Jan 1970 00:00:00 GMT"},
		{784111777, "19941106T084937", "Sun, 06 Nov 1994 08:49:37 GMT"},
		{951782400, "20000229T000000", "Tue, 29 Feb 2000 00:00:00 GMT"},
		{1 << 31, "20380119T031408", "Tue, 19 Jan 2038 03:14:08 GMT"},
		{lastTime - 1, "99991231T235958", "Fri, 31 Dec 9999 23:59:58 GMT"},
		{lastTime, "99991231T235959", "Fri, 31 Dec 9999 23:59:59 GMT"},
		{lastTime + 1, "", ""},
		{lastTime + 2, "", ""},
		{lastTime + daySecs, "", ""},
		{math.MaxInt64 - 1, "", ""},
		{math.MaxInt64, "", ""},
	} {
		if got := date.Stamp(c.n); got != c.stamp {
			t.Errorf("Stamp(%d) = %q, want %q", c.n, got, c.stamp)
		}
		if got := date.Http(c.n); got != c.http {
			t.Errorf("Http(%d) = %q, want %q", c.n, got, c.http)
		}
		day, _ := divided(c.n, daySecs)
		if got, want := date.Day(day), strings.Split(c.stamp, "T")[0]; got != want {
			t.Errorf("Day(%d) = %q, want %q", day, got, want)
		}
	}
}

// TestWriteAny (P10.5, P10.6, P10.7, P10.8): any numbers, the ends of all years, and all seconds of a day.
func TestWriteAny(t *testing.T) {
	l := oddNumbers()
	for y := 1; y <= 10000; y++ {
		n := time.Date(y, 1, 1, 0, 0, 0, 0, time.UTC).Unix()
		l = append(l, n-1, n, n/daySecs-1, n/daySecs)
	}
	for n := range int64(daySecs) {
		l = append(l, -200*daySecs+n)
	}
	for _, f := range forms() {
		for _, n := range l {
			f.checkWritten(t, n)
		}
	}
}

// TestReadRight (P10.5, P10.6, P10.7): what may be is read as the library does.
func TestReadRight(t *testing.T) {
	for _, f := range forms() {
		for _, s := range f.right() {
			if _, e := f.told(s); e != api.OK {
				t.Errorf("%q is none of %s", s, f.name)
			}
			f.checkRead(t, s)
		}
	}
}

// TestReadBytes (P10.5, P10.6, P10.7): each byte of a right text, put by each other one.
func TestReadBytes(t *testing.T) {
	for _, f := range forms() {
		for _, s := range f.right() {
			for at := range len(s) {
				for b := range 256 {
					f.checkRead(t, s[:at]+string([]byte{byte(b)})+s[at+1:])
				}
			}
		}
	}
}

// TestReadPieces (P10.5, P10.6, P10.7): each piece cut off or out, one byte more at either end and in between, two that change their places.
func TestReadPieces(t *testing.T) {
	for _, f := range forms() {
		for _, s := range f.right() {
			for from := range len(s) + 1 {
				for to := from; to <= len(s); to++ {
					if from > 0 || to < len(s) {
						f.checkNone(t, s[from:to])
					}
					if from < to {
						f.checkNone(t, s[:from]+s[to:])
						f.checkRead(t, s[:from]+s[to-1:to]+s[from:to-1]+s[to:])
					}
				}
				for b := range 256 {
					f.checkNone(t, s[:from]+string([]byte{byte(b)})+s[from:])
				}
			}
			f.checkNone(t, s+s)
			f.checkNone(t, strings.Repeat(s, 500))
		}
	}
}

// checkNone asks that a text be ErrForm.
func (f form) checkNone(t *testing.T, s string) {
	t.Helper()
	if got, e := f.read(s); got != 0 || e != api.ErrForm {
		t.Errorf("Read%s(%.100q) = %d, %d, want 0, ErrForm", f.name, s, got, e)
	}
}

// TestReadNone (P10.5, P10.6, P10.7): texts that are nearly right.
func TestReadNone(t *testing.T) {
	days := []string{
		"", " ", "0", "00000000", "00000101", "00001231", "20240001", "20241301", "20249901", "20240100", "20240132", "20240199", "20240230", "20230229", "19000229",
		"21000229", "20240431", "20240631", "20240931", "20241131", "20241232", "2024131", "202401", "0101", "2024-01-01", "2024/1/1", "+2024010", "-2024010", "+0240101",
		"-0010101", " 2024101", "2024 101", "2024010 ", "202401 1", "2024+101", "2024-101", "202401+1", "202401-1", "2024T101", "T0240101", "2024010T", "2O240101",
		"0x240101", "20240l01", "1e240101", "2_240101", "20.40101", "2024010\n", "\n2024010", "2024010\x00", "100000101", "020240101", "120240101", "20240101 ",
		" 20240101", "20240101Z", "２０２４", "2024٠1", "99991232", "99991301", "99999999",
	}
	stamp, day := forms()[0], forms()[1]
	for _, s := range days {
		day.checkNone(t, s)
		stamp.checkNone(t, s)
		stamp.checkNone(t, s+"T")
		stamp.checkNone(t, s+"T000000")
		stamp.checkNone(t, s+"000000")
	}
	day.checkNone(t, "20240101T")
	day.checkNone(t, "20240101T000000")
	stamp.checkNone(t, "20240101")
	stamp.checkNone(t, "20240101T")
	for _, s := range []string{
		"240000", "246060", "250000", "990000", "006000", "009900", "000060", "000061", "000099", "235960", "236000", "00000", "0000000", "000000Z", "0000", "", "T000000",
		"+00000", "-00000", "+10101", "-10101", "00+100", "00-100", "0000+1", "0000-1", " 10101", "01 101", "0101 1", "01010 ", "00:0000", "000:00", "00:00:00", "0T0000",
		"00000T", "t00000", "0000.1", "00000\n", "1e0000", "0x0000",
	} {
		stamp.checkNone(t, "20240101T"+s)
		stamp.checkNone(t, "19700101T"+s)
	}
	for _, s := range []string{
		"20240101t000000", "20240101 000000", "202401010000000", "2024010T1000000", "202401010T00000", "20240101\x00000000", "20240101TT00000", "20240101T000000Z", "20240101-000000",
		"T20240101000000", "20240101000000T", "20240101T00000T", "000000T20240101", "99991231T235960", "00000101T000000",
	} {
		stamp.checkNone(t, s)
	}
}

// TestReadHttpNone (P10.7): texts that are nearly right.
func TestReadHttpNone(t *testing.T) {
	for _, s := range []string{
		"", " ", "0", "GMT", "Sun, 06 Nov 1994 08:49:37", "Sun, 06 Nov 1994", "784111777",
		"Mon, 06 Nov 1994 08:49:37 GMT", "Sat, 06 Nov 1994 08:49:37 GMT", "Tue, 06 Nov 1994 08:49:37 GMT", // another weekday
		"Wed, 06 Nov 1994 08:49:37 GMT", "Thu, 06 Nov 1994 08:49:37 GMT", "Fri, 06 Nov 1994 08:49:37 GMT",
		"sun, 06 Nov 1994 08:49:37 GMT", "SUN, 06 Nov 1994 08:49:37 GMT", "sUn, 06 Nov 1994 08:49:37 GMT",
		"Sun, 06 nov 1994 08:49:37 GMT", "Sun, 06 NOV 1994 08:49:37 GMT", "Sun, 06 noV 1994 08:49:37 GMT",
		"Sun, 06 Nov 1994 08:49:37 gmt", "Sun, 06 Nov 1994 08:49:37 Gmt", "Sun, 06 Nov 1994 08:49:37 UTC", "Sun, 06 Nov 1994 08:49:37 UT ", "Sun, 06 Nov 1994 08:49:37 EST",
		"Sun, 6 Nov 1994 08:49:37 GMT", "Sun,  6 Nov 1994 08:49:37 GMT", "Sun, 6  Nov 1994 08:49:37 GMT", "Sun, 006 Nov 1994 08:49:37 GMT",
		"Sun, +6 Nov 1994 08:49:37 GMT", "Sun, -6 Nov 1994 08:49:37 GMT", "Sun, 06 Nov +994 08:49:37 GMT", "Sun, 06 Nov -994 08:49:37 GMT", "Sun, 06 Nov  994 08:49:37 GMT",
		"Sun, 06 Nov 1994 +8:49:37 GMT", "Sun, 06 Nov 1994 -8:49:37 GMT", "Sun, 06 Nov 1994  8:49:37 GMT", "Sun, 06 Nov 1994 8:49:37 GMT", "Sun, 06 Nov 1994 08:49: 7 GMT",
		"Sun, 06 Nov 1994T08:49:37 GMT", "Sun, 06 Nov 1994 08T49T37 GMT", "Sun, 06 Nov 1994 08:49:37TGMT", "Sun,T06 Nov 1994 08:49:37 GMT", "Sun, 06TNov 1994 08:49:37 GMT",
		"Sun, 06-Nov-1994 08:49:37 GMT", "Sunday, 06-Nov-94 08:49:37 GMT", "Sun Nov  6 08:49:37 1994", "Sun, Nov 06 1994 08:49:37 GMT", "Sun. 06 Nov 1994 08:49:37 GMT",
		"Sun  06 Nov 1994 08:49:37 GMT", "Sun,\t06 Nov 1994 08:49:37 GMT", "Sun, 06 Nov 1994\t08:49:37 GMT", "Sun, 06 Nov 1994 08:49:37\tGMT", "Sun, 06 Nov 1994 08.49.37 GMT",
		"Sun, 06 Nov 1994 08:4937: GMT", "Sun, 06 Nov 1994 08:49:37GMT ", " Sun, 06 Nov 1994 08:49:37 GMT", "Sun, 06 Nov 1994 08:49:37 GMT ", "Sun, 06 Nov 1994 08:49:37 GMT\n",
		"Sun, 06 Nov 1994 24:49:37 GMT", "Mon, 07 Nov 1994 24:00:00 GMT", "Sun, 06 Nov 1994 24:00:00 GMT", "Sun, 06 Nov 1994 08:60:37 GMT", "Sun, 06 Nov 1994 08:49:60 GMT",
		"Sun, 06 Nov 1994 08:49:61 GMT", "Sun, 06 Nov 1994 99:99:99 GMT", "Sat, 01 Jan 0000 00:00:00 GMT", "Sun, 31 Dec 0000 23:59:59 GMT", "Fri, 31 Dec 0000 23:59:59 GMT",
		"Sun, 00 Nov 1994 08:49:37 GMT", "Mon, 00 Nov 1994 08:49:37 GMT", "Thu, 31 Nov 1994 08:49:37 GMT", "Tue, 30 Feb 1999 08:49:37 GMT", "Thu, 29 Feb 1900 08:49:37 GMT",
		"Tue, 30 Feb 2000 00:00:00 GMT", "Wed, 32 Jan 2024 00:00:00 GMT", "Thu, 32 Jan 2024 00:00:00 GMT", "Sat, 99 Jan 2024 00:00:00 GMT", "Sat, 01 Jan 10000 00:00:00 GMT",
		"Sun, 06 000 1994 08:49:37 GMT", "Sun, 06 011 1994 08:49:37 GMT", "Sun, 06     1994 08:49:37 GMT", "Sun, 06 Foo 1994 08:49:37 GMT", "Sun, 06 ov  1994 08:49:37 GMT",
		"Son, 06 Nov 1994 08:49:37 GMT", "   , 06 Nov 1994 08:49:37 GMT", "Sun, 06 Mai 1994 08:49:37 GMT", "Sun, 06 Nov 199\u0664 8:49:37 GMT",
	} {
		forms()[2].checkNone(t, s)
	}
}

// TestReadDates (P10.5, P10.6, P10.7): all months and days of two digits, in years of each kind; of Http all weekdays.
func TestReadDates(t *testing.T) {
	stamp, day, http := forms()[0], forms()[1], forms()[2]
	for _, y := range []int{0, 1, 4, 100, 400, 999, 1900, 1999, 2000, 2023, 2024, 9996, 9999} {
		for m := range 100 {
			for d := range 100 {
				s := fmt.Sprintf("%04d%02d%02d", y, m, d)
				ok := d >= 1 && d <= modelLength(y, m)
				if _, e := date.ReadDay(s); (e == api.OK) != ok {
					t.Errorf("ReadDay(%q): %d", s, e)
				}
				day.checkRead(t, s)
				stamp.checkRead(t, s+"T123456")
			}
		}
		for _, m := range []string{"Jan", "Feb", "Mar", "Apr", "May", "Jun", "Jul", "Aug", "Sep", "Oct", "Nov", "Dec"} {
			for d := range 34 {
				for _, w := range []string{"Mon", "Tue", "Wed", "Thu", "Fri", "Sat", "Sun"} {
					http.checkRead(t, fmt.Sprintf("%s, %02d %s %04d 12:34:56 GMT", w, d, m, y))
				}
			}
		}
	}
}

// TestReadClocks (P10.5, P10.7): all hours, minutes and seconds of two digits, two at a time.
func TestReadClocks(t *testing.T) {
	for a := range 100 {
		for b := range 100 {
			for _, c := range [][3]int{{a, b, 30}, {a, 30, b}, {10, a, b}, {a, b, 60}, {24, a, b}, {23, a, b}} {
				inClock := c[0] < 24 && c[1] < 60 && c[2] < 60
				sum := int64(c[0]*3600 + c[1]*60 + c[2])
				want, wantE := int64(0), api.ErrForm
				if inClock {
					want, wantE = 9075*daySecs+sum, api.OK
				}
				s := fmt.Sprintf("19941106T%02d%02d%02d", c[0], c[1], c[2])
				if got, e := date.ReadStamp(s); got != want || e != wantE {
					t.Errorf("ReadStamp(%q) = %d, %d, want %d, %d", s, got, e, want, wantE)
				}
				s = fmt.Sprintf("Sun, 06 Nov 1994 %02d:%02d:%02d GMT", c[0], c[1], c[2])
				if got, e := date.ReadHttp(s); got != want || e != wantE {
					t.Errorf("ReadHttp(%q) = %d, %d, want %d, %d", s, got, e, want, wantE)
				}
			}
		}
	}
}

// TestReadHttpCase (P10.7): each letter small and great, all choices of them in each name.
func TestReadHttpCase(t *testing.T) {
	f := forms()[2]
	for _, s := range f.right() {
		for _, at := range []int{0, 8, 26} {
			for choice := range 8 {
				b := []byte(s)
				for i := range 3 {
					b[at+i] &^= 0x20
					if choice>>i&1 == 1 {
						b[at+i] |= 0x20
					}
				}
				f.checkRead(t, string(b))
			}
		}
		f.checkNone(t, strings.ToLower(s))
		f.checkNone(t, strings.ToUpper(s))
	}
}

// TestThereAndBack (P10.5, P10.7, P10.8): a drawn time of each day that there is is written, and read.
func TestThereAndBack(t *testing.T) {
	draw := rand.New(rand.NewPCG(10, 3))
	stamp, http := forms()[0], forms()[2]
	for n := int64(firstDay); n <= lastDay; n++ {
		secs := draw.Int64N(daySecs)
		at := n*daySecs + secs
		s := date.Stamp(at)
		if got, e := date.ReadStamp(s); got != at || e != api.OK {
			t.Fatalf("ReadStamp(%q) = %d, %d, want %d", s, got, e, at)
		}
		if day, sec := date.Parts(at); day != n || sec != secs || s[:8] != date.Day(n) {
			t.Fatalf("Parts(%d) = %d, %d, Stamp %q", at, day, sec, s)
		}
		s = date.Http(at)
		if got, e := date.ReadHttp(s); got != at || e != api.OK {
			t.Fatalf("ReadHttp(%q) = %d, %d, want %d", s, got, e, at)
		}
	}
	for range 100000 {
		at := firstTime + draw.Int64N(lastTime-firstTime+1)
		stamp.checkWritten(t, at)
		http.checkWritten(t, at)
	}
}

// TestRise (P10.10): stamps rise as their times do, at the ends of minutes, hours, days, months and years, and over drawn pairs; days' texts as well.
func TestRise(t *testing.T) {
	check := func(a, b int64) {
		t.Helper()
		if got, want := strings.Compare(date.Stamp(a), date.Stamp(b)), cmp.Compare(a, b); got != want {
			t.Errorf("Stamp(%d) = %q, Stamp(%d) = %q", a, date.Stamp(a), b, date.Stamp(b))
		}
		dayA, _ := divided(a, daySecs)
		dayB, _ := divided(b, daySecs)
		if got, want := strings.Compare(date.Day(dayA), date.Day(dayB)), cmp.Compare(dayA, dayB); got != want {
			t.Errorf("Day(%d) = %q, Day(%d) = %q", dayA, date.Day(dayA), dayB, date.Day(dayB))
		}
	}
	draw := rand.New(rand.NewPCG(10, 4))
	for y := 1; y <= 9999; y++ {
		for m := 1; m <= 12; m++ {
			n := time.Date(y, time.Month(m), 1, 0, 0, 0, 0, time.UTC).Unix()
			if n > firstTime {
				check(n-1, n)
			}
			for _, long := range []int64{1, 60, 3600, daySecs} {
				at := n + draw.Int64N(28*daySecs)/long*long
				check(at, at+1)
				check(at, at)
				if at > firstTime {
					check(at-1, at)
					check(at, at-1)
				}
			}
		}
	}
	for range 200000 {
		a := firstTime + draw.Int64N(lastTime-firstTime+1)
		b := min(lastTime, max(firstTime, a+draw.Int64N(1<<draw.Int64N(38))))
		check(a, b)
		check(b, firstTime+draw.Int64N(lastTime-firstTime+1))
	}
	check(firstTime, lastTime)
	check(lastTime, firstTime)
}

// FuzzDate: any text, and any number.
func FuzzDate(f *testing.F) {
	for _, s := range []string{"", "19700101T000000", "20000229", "Sun, 06 Nov 1994 08:49:37 GMT", "00010101T000000", "99991231T235959"} {
		f.Add(s, int64(784111777))
	}
	f.Add("00000101", int64(math.MinInt64))
	f.Fuzz(func(t *testing.T, s string, n int64) {
		day, sec := date.Parts(n)
		if wantDay, wantSec := divided(n, daySecs); day != wantDay || sec != wantSec {
			t.Errorf("Parts(%d) = %d, %d, want %d, %d", n, day, sec, wantDay, wantSec)
		}
		for _, f := range forms() {
			f.checkRead(t, s)
			f.checkWritten(t, n)
			f.checkWritten(t, day)
			f.checkWritten(t, n%lastTime)
		}
	})
}
