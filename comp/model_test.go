package comp_test

import (
	"fmt"
	"reflect"
	"regexp"
	"slices"
	"strings"
	"testing"
	"unsafe"

	"almanac/api"
	"almanac/comp"
	"almanac/line"
)

// of is a component of properties and components, each in their order.
func of(name string, parts ...any) api.Comp {
	c := api.Comp{Name: name}
	for _, one := range parts {
		switch x := one.(type) {
		case api.Prop:
			c.Props = append(c.Props, x)
		case api.Comp:
			c.Comps = append(c.Comps, x)
		}
	}
	return c
}

// prop is a property.
func prop(name, value string, params ...api.Param) api.Prop {
	return api.Prop{Name: name, Params: params, Value: value}
}

// param is a parameter.
func param(name string, values ...string) api.Param { return api.Param{Name: name, Values: values} }

// times is a text so many times.
func times(s string, n int) string { return strings.Repeat(s, n) }

// text is lines with their ends.
func text(l ...string) string { return strings.Join(l, "\n") + "\n" }

// within is a component within so many others, each of its own name.
func within(c api.Comp, n int) api.Comp {
	for i := range n {
		c = of(fmt.Sprint("D", n-1-i), c)
	}
	return c
}

// copied is a component that shares no memory with another one.
func copied(c api.Comp) api.Comp {
	out := api.Comp{Name: c.Name}
	for _, p := range c.Props {
		out.Props = append(out.Props, copiedProp(p))
	}
	for _, in := range c.Comps {
		out.Comps = append(out.Comps, copied(in))
	}
	return out
}

func copiedProp(p api.Prop) api.Prop {
	out := prop(p.Name, p.Value)
	for _, one := range p.Params {
		out.Params = append(out.Params, param(one.Name, slices.Clone(one.Values)...))
	}
	return out
}

// alike tells whether two components are the same in all that can be seen of them.
func alike(a, b api.Comp) bool {
	return a.Name == b.Name && slices.EqualFunc(a.Props, b.Props, alikeProp) && slices.EqualFunc(a.Comps, b.Comps, alike)
}

func alikeProp(a, b api.Prop) bool {
	return a.Name == b.Name && a.Value == b.Value && slices.EqualFunc(a.Params, b.Params, func(a, b api.Param) bool {
		return a.Name == b.Name && slices.Equal(a.Values, b.Values)
	})
}

// memory is where a list lies, with all that it may grow to.
type memory struct{ from, to uintptr }

func memoryOf[E any](l []E) memory {
	var one E
	from := uintptr(unsafe.Pointer(unsafe.SliceData(l)))
	return memory{from, from + uintptr(cap(l))*unsafe.Sizeof(one)}
}

// memories is where all lists of a component lie.
func memories(c api.Comp) []memory { return memoriesBehind(nil, c) }

func memoriesBehind(l []memory, c api.Comp) []memory {
	l = append(l, memoryOf(c.Props), memoryOf(c.Comps))
	for _, p := range c.Props {
		l = append(l, memoriesOfProp(p)...)
	}
	for _, in := range c.Comps {
		l = memoriesBehind(l, in)
	}
	return l
}

func memoriesOfProp(p api.Prop) []memory {
	l := []memory{memoryOf(p.Params)}
	for _, one := range p.Params {
		l = append(l, memoryOf(one.Values))
	}
	return l
}

// areApart asks that no two lists share memory.
func areApart(t *testing.T, what string, l ...memory) {
	t.Helper()
	l = slices.DeleteFunc(slices.Clone(l), func(m memory) bool { return m.from == m.to })
	slices.SortFunc(l, func(a, b memory) int { return int(a.from) - int(b.from) })
	for i := range l {
		if i > 0 && l[i].from < l[i-1].to {
			t.Errorf("lists of %s share memory", what)
		}
	}
}

var (
	nameExp  = regexp.MustCompile(`\A[A-Za-z0-9-]{1,64}\z`)
	greatExp = regexp.MustCompile(`\A[A-Z0-9-]{1,64}\z`)
)

// isMark tells whether a property is a BEGIN or an END.
func isMark(p api.Prop) bool { return p.Name == "BEGIN" || p.Name == "END" }

// modelParse is what Parse is to tell: each line is judged by those ahead of it, seen from behind; what is right is cut out by its places.
func modelParse(s string) (api.Comp, api.Errno) {
	whole, e := line.Unfold(s)
	if e != api.OK {
		return api.Comp{}, e
	}
	var l []api.Prop
	for _, one := range whole {
		p, e := line.Parse(one)
		if e == api.OK {
			e = judged(l, p)
		}
		if e != api.OK {
			return api.Comp{}, e
		}
		l = append(l, p)
	}
	if len(l) == 0 || len(around(l)) > 0 {
		return api.Comp{}, api.ErrShort
	}
	return cut(l), api.OK
}

// around is the names of the components that what comes behind these lines stands in, the innermost one first.
func around(l []api.Prop) []string {
	var names []string
	ended := 0
	for _, p := range slices.Backward(l) {
		switch {
		case p.Name == "END":
			ended++
		case p.Name == "BEGIN" && ended > 0:
			ended--
		case p.Name == "BEGIN":
			names = append(names, strings.ToUpper(p.Value))
		}
	}
	return names
}

// judged is what is wrong with a line behind others that are right.
func judged(l []api.Prop, p api.Prop) api.Errno {
	in := around(l)
	switch {
	case len(in) == 0 && (len(l) > 0 || p.Name != "BEGIN"):
		return api.ErrForm
	case !isMark(p):
		return api.OK
	case len(p.Params) > 0 || !nameExp.MatchString(p.Value):
		return api.ErrForm
	case p.Name == "BEGIN" && len(in) >= 12:
		return api.ErrDeep
	case p.Name == "END" && strings.ToUpper(p.Value) != in[0]:
		return api.ErrMatch
	}
	return api.OK
}

// cut is the component that lines are, which are right.
func cut(l []api.Prop) api.Comp {
	c := of(strings.ToUpper(l[0].Value))
	for from := 1; from < len(l)-1; {
		to := from + 1
		for len(around(l[from:to])) > 0 {
			to++
		}
		if l[from].Name == "BEGIN" {
			c.Comps = append(c.Comps, cut(l[from:to]))
		} else {
			c.Props = append(c.Props, l[from])
		}
		from = to
	}
	return c
}

// modelLines is a component's lines, whole, whether or not it is fit.
func modelLines(c api.Comp) []string {
	var l []string
	for _, p := range c.Props {
		l = append(l, line.Print(p))
	}
	for _, in := range c.Comps {
		l = append(l, modelLines(in)...)
	}
	return slices.Concat([]string{"BEGIN:" + c.Name}, l, []string{"END:" + c.Name})
}

// modelPrint is what Print is to tell of what is fit.
func modelPrint(c api.Comp) string { return line.Fold(modelLines(c)) }

// depth is how many components stand in one another.
func depth(c api.Comp) int {
	most := 0
	for _, in := range c.Comps {
		most = max(most, depth(in))
	}
	return most + 1
}

// modelFit is what Fit is to tell.
func modelFit(c api.Comp) bool {
	isFaulty := func(p api.Prop) bool { return !line.Fit(p) || isMark(p) }
	isUnfit := func(in api.Comp) bool { return !modelFit(in) }
	switch {
	case !greatExp.MatchString(c.Name), slices.ContainsFunc(c.Props, isFaulty), slices.ContainsFunc(c.Comps, isUnfit):
		return false
	}
	return depth(c) <= 12 && len(modelLines(c)) <= 400 && len(modelPrint(c)) <= 8192
}

// check holds what Parse tells against what it is to tell.
func check(t *testing.T, s string, want api.Comp, e api.Errno) {
	t.Helper()
	got, f := comp.Parse(s)
	if f != e || !alike(got, want) || e != api.OK && !reflect.DeepEqual(got, api.Comp{}) {
		t.Errorf("Parse(%.300q), of %d bytes, = %.300q, %d, want %.300q, %d", s, len(s), fmt.Sprint(got), f, fmt.Sprint(want), e)
	}
	areApart(t, fmt.Sprintf("Parse(%.300q)", s), memories(got)...)
}

// parses asks for this component, of the model too.
func parses(t *testing.T, s string, want api.Comp) {
	t.Helper()
	check(t, s, want, api.OK)
	if c, e := modelParse(s); e != api.OK || !alike(c, want) {
		t.Errorf("the model of Parse(%.300q) is %.300q, %d", s, fmt.Sprint(c), e)
	}
}

// fails asks for this error, of the model too.
func fails(t *testing.T, s string, e api.Errno) {
	t.Helper()
	check(t, s, api.Comp{}, e)
	if _, f := modelParse(s); f != e {
		t.Errorf("the model of Parse(%.300q) is %d, want %d", s, f, e)
	}
}

// likeModel holds Parse against the model; what it tells is written, if that may be, and read as the same.
func likeModel(t *testing.T, s string) {
	t.Helper()
	want, e := modelParse(s)
	check(t, s, want, e)
	if e == api.OK {
		printLikeModel(t, want)
	}
}

// checkPrint holds Fit and Print of a component against what they are to tell, and reads what is written; "" is what is not fit.
func checkPrint(t *testing.T, c api.Comp, want string) {
	t.Helper()
	given := copied(c)
	if got := comp.Fit(c); got != (want != "") {
		t.Errorf("Fit(%.300q) = %v", fmt.Sprint(c), got)
	}
	got := comp.Print(c)
	if got != want {
		t.Errorf("Print(%.300q) = %.300q (%d), want %.300q (%d)", fmt.Sprint(c), got, len(got), want, len(want))
	}
	if !alike(c, given) {
		t.Errorf("Fit or Print changed %.300q into %.300q", fmt.Sprint(given), fmt.Sprint(c))
	}
	if want != "" {
		check(t, got, given, api.OK)
	}
}

// printLikeModel holds it against the models.
func printLikeModel(t *testing.T, c api.Comp) {
	t.Helper()
	if modelFit(c) {
		checkPrint(t, c, modelPrint(c))
	} else {
		checkPrint(t, c, "")
	}
}

// fit asks that a component be one, and be written as the model writes it.
func fit(t *testing.T, c api.Comp) {
	t.Helper()
	checkPrint(t, c, modelPrint(c))
	if !modelFit(c) {
		t.Errorf("the model has %.300q as not fit", fmt.Sprint(c))
	}
}

// unfit asks that a component be none.
func unfit(t *testing.T, c api.Comp) {
	t.Helper()
	checkPrint(t, c, "")
	if modelFit(c) {
		t.Errorf("the model has %.300q as fit", fmt.Sprint(c))
	}
}
