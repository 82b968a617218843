package rule_test

import (
	"fmt"
	"maps"
	"math/rand/v2"
	"reflect"
	"regexp"
	"slices"
	"strings"
	"sync"
	"testing"
	"unsafe"

	"almanac/api"
	"almanac/rule"
	"almanac/value"
)

// names is all names of parts, in the order in which they are written.
var names = []string{"FREQ", "INTERVAL", "COUNT", "UNTIL", "BYMONTH", "BYMONTHDAY", "BYDAY", "BYSETPOS", "WKST"}

// lists is the names of those parts that may have several values.
var lists = []string{"BYMONTH", "BYMONTHDAY", "BYDAY", "BYSETPOS"}

var (
	freqNames = map[string]int{"DAILY": api.FrDaily, "WEEKLY": api.FrWeekly, "MONTHLY": api.FrMonthly, "YEARLY": api.FrYearly}
	dayNames  = map[string]int{"MO": 0, "TU": 1, "WE": 2, "TH": 3, "FR": 4, "SA": 5, "SU": 6}
)

// greatLetters makes letters great byte by byte.
var greatLetters = func() *strings.Replacer {
	var l []string
	for b := 'a'; b <= 'z'; b++ {
		l = append(l, string(b), string(b-'a'+'A'))
	}
	return strings.NewReplacer(l...)
}()

// upTo is all texts that are a number from 1 to most, with what they are read as.
func upTo(most int) map[string]int {
	l := map[string]int{}
	for n := 1; n <= most; n++ {
		for long := len(fmt.Sprint(n)); long <= 4; long++ {
			l[fmt.Sprintf("%0*d", long, n)] = n
		}
	}
	return l
}

// eitherTo is these, perhaps with a + ahead, and those below 0.
func eitherTo(most int) map[string]int {
	l := upTo(most)
	for s, n := range maps.Clone(l) {
		l["+"+s], l["-"+s] = n, -n
	}
	return l
}

// daysTo is all texts that are a day of the week, perhaps with a number ahead.
func daysTo(most int) map[string]api.WDay {
	l := map[string]api.WDay{}
	for day, at := range dayNames {
		l[day] = api.WDay{Day: at}
		for s, n := range eitherTo(most) {
			l[s+day] = api.WDay{N: n, Day: at}
		}
	}
	return l
}

// all is all texts that there are for each kind of value.
var all = sync.OnceValue(func() (l struct {
	upTo1000, upTo12, eitherTo31, eitherTo366 map[string]int
	daysTo53                                  map[string]api.WDay
}) {
	l.upTo1000, l.upTo12, l.eitherTo31, l.eitherTo366, l.daysTo53 = upTo(1000), upTo(12), eitherTo(31), eitherTo(366), daysTo(53)
	return l
})

// valuesOf is what a list's values are by a map; false, if one is not in it.
func valuesOf[T any](s string, in map[string]T) ([]T, bool) {
	var l []T
	for _, one := range strings.Split(s, ",") {
		v, ok := in[one]
		if !ok {
			return nil, false
		}
		l = append(l, v)
	}
	return l, true
}

var partExp = regexp.MustCompile(`(?s)\A([^=]*)=(.*)\z`)

// modelParse is what Parse is to tell: each part's faults by those ahead of it, and then its value out of all that there are.
func modelParse(s string) (api.Rule, api.Errno) {
	r := api.Rule{Interval: 1}
	stood := map[string]bool{}
	for _, one := range strings.Split(greatLetters.Replace(s), ";") {
		m := partExp.FindStringSubmatch(one)
		if m == nil {
			return api.Rule{}, api.ErrForm
		}
		name, v := m[1], m[2]
		if !slices.Contains(names, name) || name == "FREQ" && freqNames[v] == 0 {
			return api.Rule{}, api.ErrKind
		}
		if stood[name] {
			return api.Rule{}, api.ErrTwice
		}
		stood[name] = true
		if slices.Contains(lists, name) && strings.Count(v, ",") > 23 {
			return api.Rule{}, api.ErrMany
		}
		if !modelPart(&r, name, v) {
			return api.Rule{}, api.ErrForm
		}
	}
	switch {
	case !stood["FREQ"]:
		return api.Rule{}, api.ErrMiss
	case !modelFit(r):
		return api.Rule{}, api.ErrState
	}
	return r, api.OK
}

// modelPart sets what a part says; false, if one of its values is none.
func modelPart(r *api.Rule, name, v string) bool {
	ok := true
	switch name {
	case "FREQ":
		r.Freq = freqNames[v]
	case "INTERVAL":
		r.Interval, ok = all().upTo1000[v]
	case "COUNT":
		r.Count, ok = all().upTo1000[v]
	case "UNTIL":
		w, e := value.Time(v)
		r.Until, r.HasUntil, ok = w, true, e == api.OK
	case "BYMONTH":
		r.ByMonth, ok = valuesOf(v, all().upTo12)
	case "BYMONTHDAY":
		r.ByMonthDay, ok = valuesOf(v, all().eitherTo31)
	case "BYDAY":
		r.ByDay, ok = valuesOf(v, all().daysTo53)
	case "BYSETPOS":
		r.BySetPos, ok = valuesOf(v, all().eitherTo366)
	case "WKST":
		r.Wkst, ok = dayNames[v]
	}
	return ok
}

// size is a number without its sign.
func size(n int) uint {
	if n < 0 {
		return -uint(n)
	}
	return uint(n)
}

// modelFit is what Fit is to tell: what would be wrong with a rule, one by one.
func modelFit(r api.Rule) bool {
	isFew := r.Freq == api.FrDaily || r.Freq == api.FrWeekly
	lacks := []bool{
		r.Freq != api.FrDaily && r.Freq != api.FrWeekly && r.Freq != api.FrMonthly && r.Freq != api.FrYearly,
		r.Interval < 1 || r.Interval > 1000,
		r.Count < 0 || r.Count > 1000,
		r.Count != 0 && r.HasUntil,
		r.HasUntil && value.TimeText(r.Until) == "",
		!r.HasUntil && r.Until != api.When{},
		len(r.ByMonth) > 24 || len(r.ByMonthDay) > 24 || len(r.ByDay) > 24 || len(r.BySetPos) > 24,
		r.Freq == api.FrWeekly && len(r.ByMonthDay) != 0,
		len(r.BySetPos) != 0 && len(r.ByMonth) == 0 && len(r.ByMonthDay) == 0 && len(r.ByDay) == 0,
		r.Wkst < 0 || r.Wkst > 6,
	}
	for _, n := range r.ByMonth {
		lacks = append(lacks, n < 1, n > 12)
	}
	for _, n := range r.ByMonthDay {
		lacks = append(lacks, n == 0, size(n) > 31)
	}
	for _, d := range r.ByDay {
		lacks = append(lacks, d.Day < 0, d.Day > 6, size(d.N) > 53, isFew && d.N != 0)
	}
	for _, n := range r.BySetPos {
		lacks = append(lacks, n == 0, size(n) > 366)
	}
	return !slices.Contains(lacks, true)
}

// nameOf is the name of a number.
func nameOf(n int, in map[string]int) string {
	for name, one := range in {
		if one == n {
			return name
		}
	}
	panic(n)
}

// joined is a list's values with "," between.
func joined[T any](l []T, write func(T) string) string {
	s := ""
	for _, one := range l {
		s += "," + write(one)
	}
	return strings.TrimPrefix(s, ",")
}

// modelPrint is what Print is to tell: each part, or what stands for none, laid together.
func modelPrint(r api.Rule) string {
	if !modelFit(r) {
		return ""
	}
	number := func(n int) string { return fmt.Sprint(n) }
	s := fmt.Sprintf("FREQ=%s;INTERVAL=%d;COUNT=%d;UNTIL=", nameOf(r.Freq, freqNames), r.Interval, r.Count)
	if r.HasUntil {
		s += value.TimeText(r.Until)
	}
	s += ";BYMONTH=" + joined(r.ByMonth, number) + ";BYMONTHDAY=" + joined(r.ByMonthDay, number)
	s += ";BYDAY=" + joined(r.ByDay, func(d api.WDay) string {
		return strings.TrimPrefix(fmt.Sprint(d.N), "0") + nameOf(d.Day, dayNames)
	})
	s += ";BYSETPOS=" + joined(r.BySetPos, number) + ";WKST=" + nameOf(r.Wkst, dayNames)
	none := regexp.MustCompile(`;(?:INTERVAL=1|COUNT=0|UNTIL=|BYMONTH=|BYMONTHDAY=|BYDAY=|BYSETPOS=|WKST=MO)(;|\z)`)
	for none.MatchString(s) {
		s = none.ReplaceAllString(s, "$1")
	}
	return s
}

// copied is a rule in memory of its own, with lists that are none where they are empty.
func copied(r api.Rule) api.Rule {
	r.ByMonth, r.ByMonthDay, r.BySetPos = slices.Clone(r.ByMonth), slices.Clone(r.ByMonthDay), slices.Clone(r.BySetPos)
	r.ByDay = slices.Clone(r.ByDay)
	for _, l := range []*[]int{&r.ByMonth, &r.ByMonthDay, &r.BySetPos} {
		if len(*l) == 0 {
			*l = nil
		}
	}
	if len(r.ByDay) == 0 {
		r.ByDay = nil
	}
	return r
}

// alike tells whether two rules are the same in all that can be seen of them.
func alike(a, b api.Rule) bool { return reflect.DeepEqual(copied(a), copied(b)) }

// memory is where a list lies, with all that it may grow to.
type memory struct{ from, to uintptr }

func memoryOf[E any](l []E) memory {
	var one E
	from := uintptr(unsafe.Pointer(unsafe.SliceData(l)))
	return memory{from, from + uintptr(cap(l))*unsafe.Sizeof(one)}
}

// memories is where all lists of a rule lie.
func memories(r api.Rule) []memory {
	return []memory{memoryOf(r.ByMonth), memoryOf(r.ByMonthDay), memoryOf(r.ByDay), memoryOf(r.BySetPos)}
}

// areApart asks that no two lists share memory.
func areApart(t *testing.T, what string, l ...memory) {
	t.Helper()
	l = slices.DeleteFunc(l, func(m memory) bool { return m.from == m.to })
	slices.SortFunc(l, func(a, b memory) int { return int(a.from) - int(b.from) })
	for i := range l {
		if i > 0 && l[i].from < l[i-1].to {
			t.Errorf("lists of %s share memory", what)
		}
	}
}

// check holds what Parse tells against what it is to be; what it tells is written, and that read as the same.
func check(t *testing.T, s string, want api.Rule, e api.Errno) {
	t.Helper()
	got, f := rule.Parse(s)
	if f != e || !alike(got, want) || e != api.OK && !reflect.DeepEqual(got, api.Rule{}) {
		t.Errorf("Parse(%.300q), of %d bytes, = %.300q, %d, want %.300q, %d", s, len(s), fmt.Sprint(got), f, fmt.Sprint(want), e)
	}
	if f != api.OK {
		return
	}
	again, _ := rule.Parse(s)
	areApart(t, fmt.Sprintf("Parse(%.300q)", s), append(memories(got), memories(again)...)...)
	written := rule.Print(got)
	if back, f := rule.Parse(written); f != api.OK || !alike(back, got) || !rule.Same(back, got) || !rule.Fit(got) {
		t.Errorf("Parse(%.300q) = %.300q, written as %.300q, but that is read as %.300q, %d", s, fmt.Sprint(got), written, fmt.Sprint(back), f)
	}
}

// parses asks for this rule, of the model too.
func parses(t *testing.T, s string, want api.Rule) {
	t.Helper()
	check(t, s, want, api.OK)
	if r, e := modelParse(s); e != api.OK || !alike(r, want) {
		t.Errorf("the model of Parse(%.300q) is %.300q, %d, want %.300q", s, fmt.Sprint(r), e, fmt.Sprint(want))
	}
}

// fails asks for this error, of the model too.
func fails(t *testing.T, s string, e api.Errno) {
	t.Helper()
	check(t, s, api.Rule{}, e)
	if _, f := modelParse(s); f != e {
		t.Errorf("the model of Parse(%.300q) is %d, want %d", s, f, e)
	}
}

// likeModel holds Parse against the model.
func likeModel(t *testing.T, s string) {
	t.Helper()
	want, e := modelParse(s)
	check(t, s, want, e)
}

// isFit asks whether a rule can be, of the model too, and that it is written just then; that is read as it again.
func isFit(t *testing.T, r api.Rule, want bool) {
	t.Helper()
	was := copied(r)
	if got, like := rule.Fit(r), modelFit(r); got != want || like != want {
		t.Errorf("Fit(%.300q) = %v, its model %v, want %v", fmt.Sprint(r), got, like, want)
	}
	s := rule.Print(r)
	if like := modelPrint(r); s != like || (s != "") != want {
		t.Errorf("Print(%.300q) = %.300q, its model %.300q", fmt.Sprint(r), s, like)
	}
	if back, e := rule.Parse(s); want && (e != api.OK || !alike(back, r)) {
		t.Errorf("Print(%.300q) = %.300q, but that is read as %.300q, %d", fmt.Sprint(r), s, fmt.Sprint(back), e)
	}
	if !alike(was, r) {
		t.Errorf("%.300q became %.300q", fmt.Sprint(was), fmt.Sprint(r))
	}
}

// prints asks for this text, of the model too.
func prints(t *testing.T, r api.Rule, want string) {
	t.Helper()
	isFit(t, r, want != "")
	if s := rule.Print(r); s != want {
		t.Errorf("Print(%.300q) = %.300q, want %.300q", fmt.Sprint(r), s, want)
	}
	if want != "" {
		parses(t, want, r)
	}
}

// mixed is a text with each second letter of it small, or each other one.
func mixed(s string, from int) string {
	b := []byte(s)
	for i := from; i < len(b); i += 2 {
		b[i] = strings.ToLower(string(b[i]))[0]
	}
	return string(b)
}

// cases is a text in great, small and mixed letters.
func cases(s string) []string {
	return []string{s, strings.ToLower(s), mixed(s, 0), mixed(s, 1), s[:1] + strings.ToLower(s[1:])}
}

// short is all texts of so many pieces at most.
func short(most int, pieces ...string) []string {
	l := []string{""}
	from := 0
	for range most {
		to := len(l)
		for _, s := range l[from:to] {
			for _, one := range pieces {
				l = append(l, s+one)
			}
		}
		from = to
	}
	return l
}

// repeated is a value so many times, "," between.
func repeated(s string, n int) string {
	return strings.TrimSuffix(strings.Repeat(s+",", n), ",")
}

func newDraw(seed uint64) *rand.Rand { return rand.New(rand.NewPCG(14, seed)) }
