package rule

import (
	"strconv"
	"strings"

	"almanac/api"
	"almanac/value"
)

// Print writes a rule.
func Print(r api.Rule) string {
	if !Fit(r) {
		return ""
	}
	l := add(nil, freqName, freqText, r.Freq)
	if r.Interval != 1 {
		l = add(l, intervalName, strconv.Itoa, r.Interval)
	}
	if r.Count != 0 {
		l = add(l, countName, strconv.Itoa, r.Count)
	}
	if r.HasUntil {
		l = add(l, untilName, value.TimeText, r.Until)
	}
	l = add(l, monthName, strconv.Itoa, r.ByMonth...)
	l = add(l, monthDayName, strconv.Itoa, r.ByMonthDay...)
	l = add(l, dayName, wdayText, r.ByDay...)
	l = add(l, placeName, strconv.Itoa, r.BySetPos...)
	if r.Wkst != 0 {
		l = add(l, wkstName, dayText, r.Wkst)
	}
	return strings.Join(l, ";")
}

// add writes one part more, if it has values, by what writes one of them.
func add[T any](l []string, name string, write func(T) string, values ...T) []string {
	if len(values) == 0 {
		return l
	}
	texts := make([]string, len(values))
	for i, one := range values {
		texts[i] = write(one)
	}
	return append(l, name+"="+strings.Join(texts, ","))
}

func freqText(n int) string { return freqs[n] }

func dayText(n int) string { return days[n] }

func wdayText(d api.WDay) string {
	if hasNumber(d) {
		return strconv.Itoa(d.N) + dayText(d.Day)
	}
	return dayText(d.Day)
}
