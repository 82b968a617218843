package value_test

import (
	"fmt"
	"math/rand/v2"
	"regexp"
	"strconv"
	"strings"
	"sync"
	"testing"
	"time"

	"almanac/api"
	"almanac/value"
)

const (
	firstTime = -62135596800
	lastTime  = 253402300799
	daySecs   = 86400
	weekSecs  = 7 * daySecs
	most      = 1000000000
)

// A duration as an expression, put together as the chapter does it.
const (
	numberExp   = `[0-9]{1,7}`
	secondsExp  = numberExp + `S`
	minutesExp  = numberExp + `M(?:` + secondsExp + `)?`
	hoursExp    = numberExp + `H(?:` + minutesExp + `)?`
	clockExp    = `T(?:` + hoursExp + `|` + minutesExp + `|` + secondsExp + `)`
	durationExp = `\A[+-]?P(?:` + numberExp + `W|` + numberExp + `D(?:` + clockExp + `)?|` + clockExp + `)\z`
)

var (
	wholeDuration = regexp.MustCompile(durationExp)
	durationPart  = regexp.MustCompile(`([0-9]+)([WDHMS])`)
	wholeEscaped  = regexp.MustCompile(`(?s)\A(?:[^\\]|\\[\\;,nN])*\z`)
)

// modelDuration is what Duration is to tell.
func modelDuration(s string) (int64, api.Errno) {
	if !wholeDuration.MatchString(s) {
		return 0, api.ErrForm
	}
	units := map[string]int64{"W": weekSecs, "D": daySecs, "H": 3600, "M": 60, "S": 1}
	sum := int64(0)
	for _, m := range durationPart.FindAllStringSubmatch(s, -1) {
		n, err := strconv.ParseInt(m[1], 10, 64)
		if err != nil {
			panic(err)
		}
		sum += n * units[m[2]]
	}
	if s[0] == '-' {
		return -sum, api.OK
	}
	return sum, api.OK
}

// modelDurationText is what DurationText is to tell: its form is chosen by which parts are some.
func modelDurationText(n int64) string {
	switch {
	case n > most || n < -most:
		return ""
	case n < 0:
		return "-" + modelDurationText(-n)
	case n == 0:
		return "PT0S"
	case n%weekSecs == 0:
		return fmt.Sprintf("P%dW", n/weekSecs)
	}
	d, h, m, s := n/86400, n/3600%24, n/60%60, n%60
	text := "P"
	if d > 0 {
		text = fmt.Sprintf("P%dD", d)
	}
	switch [3]bool{h > 0, m > 0, s > 0} {
	case [3]bool{false, false, true}:
		text += fmt.Sprintf("T%dS", s)
	case [3]bool{false, true, false}:
		text += fmt.Sprintf("T%dM", m)
	case [3]bool{false, true, true}:
		text += fmt.Sprintf("T%dM%dS", m, s)
	case [3]bool{true, false, false}:
		text += fmt.Sprintf("T%dH", h)
	case [3]bool{true, true, false}:
		text += fmt.Sprintf("T%dH%dM", h, m)
	case [3]bool{true, false, true}, [3]bool{true, true, true}:
		text += fmt.Sprintf("T%dH%dM%dS", h, m, s)
	}
	return text
}

// offsets is all offsets that there are, with what they are read as.
var offsets = sync.OnceValue(func() map[string]int64 {
	l := map[string]int64{}
	at := int64(0)
	for h := range 24 {
		for m := range 60 {
			for s := range 60 {
				text := fmt.Sprintf("%02d%02d%02d", h, m, s)
				l["+"+text], l["-"+text] = at, -at
				if s == 0 {
					l["+"+text[:4]], l["-"+text[:4]] = at, -at
				}
				at++
			}
		}
	}
	delete(l, "-0000")
	delete(l, "-000000")
	return l
})

// modelOffset is what Offset is to tell.
func modelOffset(s string) (int64, api.Errno) {
	n, ok := offsets()[s]
	if !ok {
		return 0, api.ErrForm
	}
	return n, api.OK
}

// modelOffsetText is what OffsetText is to tell.
func modelOffsetText(n int64) string {
	switch {
	case n >= daySecs || n <= -daySecs:
		return ""
	case n < 0:
		return "-" + modelOffsetText(-n)[1:]
	case n%60 != 0:
		return fmt.Sprintf("+%02d%02d%02d", n/3600, n/60%60, n%60)
	}
	return fmt.Sprintf("+%02d%02d", n/3600, n/60%60)
}

// modelEscape is what Escape is to tell.
func modelEscape(s string) string {
	return strings.NewReplacer(`\`, `\\`, `;`, `\;`, `,`, `\,`, "\n", `\n`).Replace(s)
}

// modelUnescape is what Unescape is to tell.
func modelUnescape(s string) (string, api.Errno) {
	if !wholeEscaped.MatchString(s) {
		return "", api.ErrForm
	}
	return strings.NewReplacer(`\\`, `\`, `\;`, `;`, `\,`, `,`, `\n`, "\n", `\N`, "\n").Replace(s), api.OK
}

// modelTime is what Time is to tell: what the library reads by one of three layouts, and writes just so.
func modelTime(s string) (api.When, api.Errno) {
	for layout, w := range map[string]api.When{"20060102": {Date: true}, "20060102T150405": {}, "20060102T150405Z": {Utc: true}} {
		x, err := time.Parse(layout, s)
		if err == nil && x.Year() >= 1 && x.Year() <= 9999 && x.Format(layout) == s {
			w.Secs = x.Unix()
			return w, api.OK
		}
	}
	return api.When{}, api.ErrForm
}

// modelTimeText is what TimeText is to tell.
func modelTimeText(w api.When) string {
	if w.Secs < firstTime || w.Secs > lastTime {
		return ""
	}
	x := time.Unix(w.Secs, 0).UTC()
	switch {
	case w.Date && (w.Utc || x.Hour() != 0 || x.Minute() != 0 || x.Second() != 0):
		return ""
	case w.Date:
		return x.Format("20060102")
	case w.Utc:
		return x.Format("20060102T150405Z")
	}
	return x.Format("20060102T150405")
}

// modelTimes is what Times is to tell.
func modelTimes(s string) ([]api.When, api.Errno) {
	pieces := strings.Split(s, ",")
	if len(pieces) > 100 {
		return nil, api.ErrMany
	}
	var l []api.When
	for _, one := range pieces {
		w, e := modelTime(one)
		if e != api.OK {
			return nil, api.ErrForm
		}
		l = append(l, w)
	}
	return l, api.OK
}

// modelPeriod is what Period is to tell.
func modelPeriod(s string) (api.Period, api.Errno) {
	pieces := strings.Split(s, "/")
	if len(pieces) != 2 {
		return api.Period{}, api.ErrForm
	}
	from, e := modelTime(pieces[0])
	to, isEnd := modelTime(pieces[1])
	long, isLong := modelDuration(pieces[1])
	switch {
	case e != api.OK || from.Date:
		return api.Period{}, api.ErrForm
	case isEnd == api.OK && !to.Date && to.Utc == from.Utc && to.Secs >= from.Secs:
		return api.Period{Start: from, Long: to.Secs - from.Secs}, api.OK
	case isLong == api.OK && long >= 0:
		return api.Period{Start: from, Long: long}, api.OK
	}
	return api.Period{}, api.ErrForm
}

// modelPeriodText is what PeriodText is to tell.
func modelPeriodText(p api.Period) string {
	from, long := modelTimeText(p.Start), modelDurationText(p.Long)
	if p.Start.Date || p.Long < 0 || from == "" || long == "" {
		return ""
	}
	return from + "/" + long
}

// checkRead holds what a text is read as, by the program and by its model, against what it is to be.
func checkRead[T comparable](t *testing.T, name string, read, model func(string) (T, api.Errno), s string, want T, e api.Errno) {
	t.Helper()
	if got, f := read(s); got != want || f != e {
		t.Errorf("%s(%.100q), of %d bytes, = %.100q, %d, want %.100q, %d", name, s, len(s), fmt.Sprint(got), f, fmt.Sprint(want), e)
	}
	if got, f := model(s); got != want || f != e {
		t.Errorf("the model of %s(%.100q), of %d bytes, is %.100q, %d, want %.100q, %d", name, s, len(s), fmt.Sprint(got), f, fmt.Sprint(want), e)
	}
}

func checkDuration(t *testing.T, s string, want int64, e api.Errno) {
	t.Helper()
	checkRead(t, "Duration", value.Duration, modelDuration, s, want, e)
}

func checkOffset(t *testing.T, s string, want int64, e api.Errno) {
	t.Helper()
	checkRead(t, "Offset", value.Offset, modelOffset, s, want, e)
}

func checkUnescape(t *testing.T, s, want string, e api.Errno) {
	t.Helper()
	checkRead(t, "Unescape", value.Unescape, modelUnescape, s, want, e)
}

func checkTime(t *testing.T, s string, want api.When, e api.Errno) {
	t.Helper()
	checkRead(t, "Time", value.Time, modelTime, s, want, e)
}

func checkPeriod(t *testing.T, s string, want api.Period, e api.Errno) {
	t.Helper()
	checkRead(t, "Period", value.Period, modelPeriod, s, want, e)
}

// checkTimes does so of Times, whose lists can't be held against each other by ==.
func checkTimes(t *testing.T, s string, want []api.When, e api.Errno) {
	t.Helper()
	as := func(read func(string) ([]api.When, api.Errno)) func(string) (string, api.Errno) {
		return func(s string) (string, api.Errno) {
			l, e := read(s)
			return fmt.Sprint(l), e
		}
	}
	checkRead(t, "Times", as(value.Times), as(modelTimes), s, fmt.Sprint(want), e)
}

// readLikeModels holds all that a text is read as against the models.
func readLikeModels(t *testing.T, s string) {
	t.Helper()
	n, e := modelDuration(s)
	checkDuration(t, s, n, e)
	n, e = modelOffset(s)
	checkOffset(t, s, n, e)
	text, e := modelUnescape(s)
	checkUnescape(t, s, text, e)
	w, e := modelTime(s)
	checkTime(t, s, w, e)
	l, e := modelTimes(s)
	checkTimes(t, s, l, e)
	p, e := modelPeriod(s)
	checkPeriod(t, s, p, e)
}

// checkWritten holds what is written, by the program and by its model, against what it is to be, and reads it.
func checkWritten[T comparable](t *testing.T, name string, write, model func(T) string, read func(string) (T, api.Errno), v T, want string) {
	t.Helper()
	s := write(v)
	if like := model(v); s != want || like != want {
		t.Errorf("%s(%.100q) = %.100q, its model %.100q, want %.100q", name, fmt.Sprint(v), s, like, want)
	}
	if got, e := read(s); want != "" && (got != v || e != api.OK) {
		t.Errorf("%s(%.100q) = %.100q, but that is read as %.100q, %d", name, fmt.Sprint(v), s, fmt.Sprint(got), e)
	}
}

func checkDurationText(t *testing.T, n int64, want string) {
	t.Helper()
	checkWritten(t, "DurationText", value.DurationText, modelDurationText, value.Duration, n, want)
}

func checkOffsetText(t *testing.T, n int64, want string) {
	t.Helper()
	checkWritten(t, "OffsetText", value.OffsetText, modelOffsetText, value.Offset, n, want)
}

func checkEscape(t *testing.T, s, want string) {
	t.Helper()
	checkWritten(t, "Escape", value.Escape, modelEscape, value.Unescape, s, want)
	if strings.Contains(value.Escape(s), "\n") {
		t.Errorf("Escape(%.100q) has a byte 10", s)
	}
}

func checkTimeText(t *testing.T, w api.When, want string) {
	t.Helper()
	checkWritten(t, "TimeText", value.TimeText, modelTimeText, value.Time, w, want)
}

func checkPeriodText(t *testing.T, p api.Period, want string) {
	t.Helper()
	checkWritten(t, "PeriodText", value.PeriodText, modelPeriodText, value.Period, p, want)
}

// whens is a time of each kind that is, and is none: of its own clock, UTC's, a day, and a day of UTC's.
func whens(secs int64) []api.When {
	return []api.When{{Secs: secs}, {Secs: secs, Utc: true}, {Secs: secs, Date: true}, {Secs: secs, Utc: true, Date: true}}
}

// writtenLikeModels holds all that numbers are written as against the models.
func writtenLikeModels(t *testing.T, n, long int64) {
	t.Helper()
	checkDurationText(t, n, modelDurationText(n))
	checkOffsetText(t, n, modelOffsetText(n))
	for _, w := range whens(n) {
		checkTimeText(t, w, modelTimeText(w))
		p := api.Period{Start: w, Long: long}
		checkPeriodText(t, p, modelPeriodText(p))
	}
}

// changed is a text with each byte put by each other one, and each one more at each place; with each piece cut off or out, or moved ahead.
func changed(s string) []string {
	var l []string
	for from := range len(s) + 1 {
		for b := range 256 {
			one := string([]byte{byte(b)})
			l = append(l, s[:from]+one+s[from:])
			if from < len(s) {
				l = append(l, s[:from]+one+s[from+1:])
			}
		}
		for to := from; to <= len(s); to++ {
			l = append(l, s[from:to], s[:from]+s[to:], s[from:to]+s[:from]+s[to:])
		}
	}
	return append(l, s+s, strings.ToLower(s))
}

// short is all texts of so many pieces at most.
func short(most int, pieces ...string) []string {
	l := []string{""}
	from := 0
	for range most {
		to := len(l)
		for _, s := range l[from:to] {
			for _, one := range pieces {
				l = append(l, s+one)
			}
		}
		from = to
	}
	return l
}

func newDraw(seed uint64) *rand.Rand { return rand.New(rand.NewPCG(13, seed)) }

// drawn is a number of any length, above 0 or below.
func drawn(draw *rand.Rand) int64 { return int64(draw.Uint64()) >> draw.IntN(64) }
