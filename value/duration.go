package value

import (
	"iter"
	"math"
	"strconv"
	"strings"

	"almanac/api"
	"almanac/date"
	"almanac/text"
)

const (
	minuteSecs = 60
	hourSecs   = 60 * minuteSecs
	daySecs    = 24 * hourSecs
	weekSecs   = 7 * daySecs
	mostSecs   = 1_000_000_000 // of a duration that is written

	digits     = "0123456789"
	mostDigits = 7 // of a number in a duration

	firstDay     = "19700101T" // time 0 begins it, so a stamp of it tells its second of the day
	hoursMinutes = "HHMM"
)

// part is one of a duration's parts: its letter, those that it may stand behind, and how many seconds one is: 0, if no number stands ahead of the letter.
type part struct {
	letter byte
	behind string
	secs   int64
}

var durationParts = [...]part{
	{'P', "", 0},
	{'W', "P", weekSecs},
	{'D', "P", daySecs},
	{'T', "PD", 0},
	{'H', "T", hourSecs},
	{'M', "TH", minuteSecs},
	{'S', "TM", 1},
}

// Duration reads a duration: seconds.
func Duration(s string) (int64, api.Errno) {
	sign, size := cutSign(s)
	size, isBegun := strings.CutPrefix(size, "P")
	if !isBegun {
		return 0, api.ErrForm
	}
	secs, last := int64(0), partOf('P')
reading:
	for letter, ahead := range parts(size) {
		one := partOf(letter)
		n, isCount := one.count(ahead)
		switch {
		case !isCount, !one.mayFollow(last):
			last = part{}
			break reading
		default:
			secs += n * one.secs
			last = one
		}
	}
	switch {
	case last.secs == 0: // it is out of order, or nothing stands behind its P or its T
		return 0, api.ErrForm
	case sign < 0:
		return -secs, api.OK
	}
	return secs, api.OK
}

// cutSign is what a text's sign means, 1 or -1, or 0 if it has none, and what stands behind it.
func cutSign(s string) (int64, string) {
	switch {
	case strings.HasPrefix(s, "+"):
		return 1, s[1:]
	case strings.HasPrefix(s, "-"):
		return -1, s[1:]
	}
	return 0, s
}

// parts hands out what stands behind a duration's P, part by part: the letter, and the digits ahead of it; at the end digits that no letter follows, with 0 for it.
func parts(s string) iter.Seq2[byte, string] {
	return func(yield func(byte, string) bool) {
		from := 0
		for at := range len(s) {
			if strings.IndexByte(digits, s[at]) >= 0 {
				continue
			}
			if !yield(s[at], s[from:at]) {
				return
			}
			from = at + 1
		}
		if from < len(s) {
			yield(0, s[from:])
		}
	}
}

// partOf is the part of a letter; the zero part, which may stand nowhere, if there is none.
func partOf(letter byte) part {
	for _, one := range durationParts {
		if one.letter == letter {
			return one
		}
	}
	return part{}
}

// mayFollow tells whether a part may stand right behind another one.
func (p part) mayFollow(last part) bool { return strings.IndexByte(p.behind, last.letter) >= 0 }

// count is the number that stands ahead of a part's letter, 0 of one that has none; false, if such digits may not stand there.
func (p part) count(ahead string) (int64, bool) {
	if p.secs == 0 {
		return 0, ahead == ""
	}
	n, isNumber := text.Number(ahead, math.MaxInt64)
	return n, isNumber && len(ahead) <= mostDigits
}

// DurationText writes one.
func DurationText(n int64) string {
	if n > mostSecs || n < -mostSecs {
		return ""
	}
	sign := ""
	if n < 0 {
		sign, n = "-", -n
	}
	switch days, left := n/daySecs, n%daySecs; {
	case n > 0 && n%weekSecs == 0:
		return sign + "P" + counted(n/weekSecs, "W")
	case days == 0:
		return sign + "PT" + clock(left)
	case left == 0:
		return sign + "P" + counted(days, "D")
	default:
		return sign + "P" + counted(days, "D") + "T" + clock(left)
	}
}

// counted is a part as it is written.
func counted(n int64, letter string) string { return strconv.FormatInt(n, 10) + letter }

// clock is the parts behind a T, of less than a day.
func clock(n int64) string {
	hours, minutes, secs := n/hourSecs, n%hourSecs/minuteSecs, n%minuteSecs
	s := ""
	if hours > 0 {
		s += counted(hours, "H")
	}
	if minutes > 0 || hours > 0 && secs > 0 { // seconds may not stand behind hours
		s += counted(minutes, "M")
	}
	if secs > 0 || s == "" {
		s += counted(secs, "S")
	}
	return s
}

// Offset reads an offset from UTC: seconds.
func Offset(s string) (int64, api.Errno) {
	sign, size := cutSign(s)
	if len(size) == len(hoursMinutes) {
		size += "00"
	}
	n, e := date.ReadStamp(firstDay + size)
	if e != api.OK || sign == 0 || sign < 0 && n == 0 {
		return 0, api.ErrForm
	}
	return sign * n, api.OK
}

// OffsetText writes one.
func OffsetText(n int64) string {
	if n >= daySecs || n <= -daySecs {
		return ""
	}
	sign := "+"
	if n < 0 {
		sign, n = "-", -n
	}
	size := strings.TrimPrefix(date.Stamp(n), firstDay)
	if n%minuteSecs == 0 {
		size = size[:len(hoursMinutes)]
	}
	return sign + size
}
