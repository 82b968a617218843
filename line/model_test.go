package line_test

import (
	"regexp"
	"slices"
	"strings"
	"unicode/utf8"

	"almanac/api"
)

// modelUnfold is what Unfold is to tell: ends are made one byte, and what goes on is joined, by other texts put in.
func modelUnfold(s string) ([]string, api.Errno) {
	switch {
	case len(s) > 8192:
		return nil, api.ErrLong
	case s == "":
		return nil, api.OK
	case s[0] == ' ' || s[0] == '\t':
		return nil, api.ErrForm
	}
	s = strings.ReplaceAll(s, "\r\n", "\n")
	s = strings.TrimSuffix(s, "\n")
	s = strings.NewReplacer("\n ", "", "\n\t", "").Replace(s)
	l := strings.Split(s, "\n")
	for i, whole := range l {
		switch {
		case i == 400 && whole != "":
			return nil, api.ErrMany
		case whole == "":
			return nil, api.ErrForm
		case len(whole) > 1024:
			return nil, api.ErrLong
		}
	}
	return l, api.OK
}

// modelFold is what Fold is to tell: a cut goes back from the farthest place till it is not within a number.
func modelFold(l []string) string {
	s := ""
	for _, whole := range l {
		for most := 75; ; most = 74 {
			if len(whole) <= most {
				s += whole + "\r\n"
				break
			}
			cut := most
			for isWithin(whole, cut) {
				cut--
			}
			s += whole[:cut] + "\r\n "
			whole = whole[cut:]
		}
	}
	return s
}

// isWithin tells whether a place lies within a number of UTF-8.
func isWithin(s string, at int) bool {
	for from := max(0, at-3); from < at; from++ {
		for to := at + 1; to <= min(len(s), from+4); to++ {
			if utf8.ValidString(s[from:to]) && utf8.RuneCountInString(s[from:to]) == 1 {
				return true
			}
		}
	}
	return false
}

const (
	nameForm  = `[A-Za-z0-9-]+`
	controls  = `\x00-\x08\x0a-\x1f\x7f`
	oneForm   = `"[^"` + controls + `]*"|[^",;:` + controls + `]*`
	listForm  = `(?:` + oneForm + `)(?:,(?:` + oneForm + `))*`
	paramForm = `;(` + nameForm + `)=(` + listForm + `)`
	propForm  = `\A(` + nameForm + `)((?:` + paramForm + `)*):([^` + controls + `]*)\z`
)

var (
	propExp  = regexp.MustCompile(propForm)
	paramExp = regexp.MustCompile(paramForm)
	oneExp   = regexp.MustCompile(`[=,](` + oneForm + `)`)
	greatExp = regexp.MustCompile(`\A[A-Z0-9-]{1,64}\z`)
	quoteExp = regexp.MustCompile(`\A[^"` + controls + `]*\z`)
	valueExp = regexp.MustCompile(`\A[^` + controls + `]*\z`)
)

// completed is a text with the least behind it that makes it a property, but for how long names are and how many parameters; false, if nothing does.
func completed(s string) (string, bool) {
	for _, more := range []string{"", ":", "a:", "=:", "a=:", `":`} {
		if propExp.MatchString(s + more) {
			return s + more, true
		}
	}
	return "", false
}

// modelParse is what Parse is to tell: how much of a text may be the beginning of a property, and where in that a limit is passed.
func modelParse(s string) (api.Prop, api.Errno) {
	switch {
	case len(s) > 1024:
		return api.Prop{}, api.ErrLong
	case !utf8.ValidString(s):
		return api.Prop{}, api.ErrForm
	}
	right, wrong := 0, len(s)+1 // so many bytes may be a beginning, so many may not
	for right+1 < wrong {
		if n := (right + wrong) / 2; isBeginning(s[:n]) {
			right = n
		} else {
			wrong = n
		}
	}
	whole, _ := completed(s[:right])
	p, e := split(whole)
	switch {
	case e != api.OK:
		return api.Prop{}, e
	case right < len(s):
		return api.Prop{}, api.ErrForm
	case whole != s:
		return api.Prop{}, api.ErrShort
	}
	return p, api.OK
}

// isBeginning tells whether a property may begin so.
func isBeginning(s string) bool {
	_, ok := completed(s)
	return ok
}

// split is a text of the form of a property, as it is told; or the first limit that it passes.
func split(s string) (api.Prop, api.Errno) {
	m := propExp.FindStringSubmatch(s)
	p := api.Prop{Name: strings.ToUpper(m[1]), Value: m[len(m)-1]}
	if len(p.Name) > 64 {
		return p, api.ErrLong
	}
	for i, param := range paramExp.FindAllStringSubmatch(m[2], -1) {
		if i == 16 {
			return p, api.ErrMany
		}
		one := api.Param{Name: strings.ToUpper(param[1])}
		if len(one.Name) > 64 {
			return p, api.ErrLong
		}
		for _, v := range oneExp.FindAllStringSubmatch("="+param[2], -1) {
			one.Values = append(one.Values, strings.Trim(v[1], `"`))
		}
		p.Params = append(p.Params, one)
	}
	return p, api.OK
}

// modelPrint is what Print is to tell of what is fit.
func modelPrint(p api.Prop) string {
	parts := []string{p.Name}
	for _, one := range p.Params {
		l := slices.Clone(one.Values)
		for i, v := range l {
			if strings.Contains(v, ",") || strings.Contains(v, ";") || strings.Contains(v, ":") {
				l[i] = `"` + v + `"`
			}
		}
		parts = append(parts, one.Name+"="+strings.Join(l, ","))
	}
	return strings.Join(parts, ";") + ":" + p.Value
}

// modelFit is what Fit is to tell.
func modelFit(p api.Prop) bool {
	ok := greatExp.MatchString(p.Name) && len(p.Params) <= 16 && valueExp.MatchString(p.Value) && utf8.ValidString(p.Value)
	for _, one := range p.Params {
		ok = ok && greatExp.MatchString(one.Name) && len(one.Values) > 0
		for _, v := range one.Values {
			ok = ok && quoteExp.MatchString(v) && utf8.ValidString(v)
		}
	}
	return ok && len(modelPrint(p)) <= 1024
}

// alike tells whether two properties are the same in all that can be seen of them.
func alike(a, b api.Prop) bool {
	return a.Name == b.Name && a.Value == b.Value && slices.EqualFunc(a.Params, b.Params, func(a, b api.Param) bool {
		return a.Name == b.Name && slices.Equal(a.Values, b.Values)
	})
}
