package line_test

import (
	"fmt"
	"slices"
	"strings"
	"testing"

	"almanac/api"
	"almanac/line"
)

// prop is a property; its params are told behind its value.
func prop(name, value string, params ...api.Param) api.Prop {
	return api.Prop{Name: name, Params: params, Value: value}
}

// param is a parameter.
func param(name string, values ...string) api.Param { return api.Param{Name: name, Values: values} }

// check holds what Parse tells against what it is to tell.
func check(t *testing.T, s string, want api.Prop, e api.Errno) {
	t.Helper()
	got, f := line.Parse(s)
	if f != e || !alike(got, want) || e != api.OK && got.Params != nil {
		t.Errorf("Parse(%.300q), of %d bytes, = %.300q, %d, want %.300q, %d", s, len(s), fmt.Sprint(got), f, fmt.Sprint(want), e)
	}
}

// parses asks for this property.
func parses(t *testing.T, s string, want api.Prop) {
	t.Helper()
	check(t, s, want, api.OK)
	likeModel(t, s)
}

// fails asks for this error.
func fails(t *testing.T, s string, e api.Errno) {
	t.Helper()
	check(t, s, api.Prop{}, e)
	likeModel(t, s)
}

// likeModel is check against the model.
func likeModel(t *testing.T, s string) {
	t.Helper()
	want, e := modelParse(s)
	check(t, s, want, e)
}

// right is properties of all forms.
func right() []string {
	return []string{
		"A:",
		"a:b",
		"-0-:1",
		`dtstart;tzid="a:b":20250101`,
		"SUMMARY;LANGUAGE=de;ALTREP=\"cid:x\":Grüße; an \"alle\": hier, dort",
		`ATTENDEE;MEMBER="mailto:a@b","mailto:c@d";CN=x y,,"";ROLE=:mailto:e@f`,
		"x-9;y=\t;z=é\u20ac\U0001f600,\"é;\":\t\u00a0",
	}
}

// TestParseForms (P11.3): what is told of each form.
func TestParseForms(t *testing.T) {
	for s, want := range map[string]api.Prop{
		"A:":                          prop("A", ""),
		"A:b":                         prop("A", "b"),
		"a:B":                         prop("A", "B"),
		"a-b9Z:":                      prop("A-B9Z", ""),
		"-:":                          prop("-", ""),
		"0:":                          prop("0", ""),
		"--9:":                        prop("--9", ""),
		"abcdefghijklmnopqrstuvwxyz:": prop("ABCDEFGHIJKLMNOPQRSTUVWXYZ", ""),
		"A::":                         prop("A", ":"),
		"A:;B=c:d":                    prop("A", ";B=c:d"),
		`A:a,"b";c=d:e\n`:             prop("A", `a,"b";c=d:e\n`),
		"A: b ":                       prop("A", " b "),
		"A:\tb\t":                     prop("A", "\tb\t"),
		"A:é\u20ac\U0001f600\u0080":   prop("A", "é\u20ac\U0001f600\u0080"),
		`A:"`:                         prop("A", `"`),
		`A:"a`:                        prop("A", `"a`),

		"A;B=c:d":         prop("A", "d", param("B", "c")),
		"a;b=c:d":         prop("A", "d", param("B", "c")),
		"A;B=C:D":         prop("A", "D", param("B", "C")),
		"A;B=:d":          prop("A", "d", param("B", "")),
		"A;B=:":           prop("A", "", param("B", "")),
		"A;B=,:d":         prop("A", "d", param("B", "", "")),
		"A;B=,,:d":        prop("A", "d", param("B", "", "", "")),
		"A;B=c,:d":        prop("A", "d", param("B", "c", "")),
		"A;B=,c:d":        prop("A", "d", param("B", "", "c")),
		"A;B=c,d,e:f":     prop("A", "f", param("B", "c", "d", "e")),
		"A;B= c ,\td\t:e": prop("A", "e", param("B", " c ", "\td\t")),
		"A;B==:d":         prop("A", "d", param("B", "=")),
		"A;B=c=d:e":       prop("A", "e", param("B", "c=d")),
		"A;B=C,c;b=C:d":   prop("A", "d", param("B", "C", "c"), param("B", "C")),
		"A;B='c':d":       prop("A", "d", param("B", "'c'")),
		`A;B=\,\\:d`:      prop("A", "d", param("B", `\`, `\\`)),
		"A;B=é,\u20ac:d":  prop("A", "d", param("B", "é", "\u20ac")),

		`A;B="c":d`:                      prop("A", "d", param("B", "c")),
		`A;B="":d`:                       prop("A", "d", param("B", "")),
		`A;B="","":d`:                    prop("A", "d", param("B", "", "")),
		`A;B="",:d`:                      prop("A", "d", param("B", "", "")),
		`A;B=,"":d`:                      prop("A", "d", param("B", "", "")),
		`A;B=";:,=":d`:                   prop("A", "d", param("B", ";:,=")),
		`A;B=";C=d:e":f`:                 prop("A", "f", param("B", ";C=d:e")),
		`A;B=":",",";C=d:e`:              prop("A", "e", param("B", ":", ","), param("C", "d")),
		`A;B=c,"d",e:f`:                  prop("A", "f", param("B", "c", "d", "e")),
		`A;B="c",d,"e":f`:                prop("A", "f", param("B", "c", "d", "e")),
		`A;B="c";C="d":e`:                prop("A", "e", param("B", "c"), param("C", "d")),
		"A;B=\"\t c\":d":                 prop("A", "d", param("B", "\t c")),
		`A;B="é":d`:                      prop("A", "d", param("B", "é")),
		`A;B="\":d`:                      prop("A", "d", param("B", `\`)),
		`A;B="c":"d":"e"`:                prop("A", `"d":"e"`, param("B", "c")),
		`A;B="` + times(";", 40) + `":d`: prop("A", "d", param("B", times(";", 40))),
		"A:" + times(";", 40):            prop("A", times(";", 40)),
	} {
		parses(t, s, want)
	}
}

// TestParseWrong (P11.3): the first byte with which no property goes on; where more must stand.
func TestParseWrong(t *testing.T) {
	for _, s := range []string{
		":", ";", "=", ",", `"`, " ", "\t", "\r", "\n", "_", ".", "/", "@", "[", "`", "{", "é", "\u0130", "\u017f:", "\u212a:", "\x00",
		":a", ";A=b:c", " A:b", "\tA:b", "A :b", "A\t:b", "a b:", "A=:b", "A=b", "A,B:c", `A":b`, "A.B:c", "A_B:c", "A/B:c", "É:b", "AÉ:b", "A\n:b", "A\r\n", "\ufeffA:b",
		"A;:", "A;:b", "A;;", "A;;B=c:d", "A;=", "A;=b:c", "A;,", `A;"`, `A;"B"=c:d`, "A; B=c:d", "A;B :c", "A;B =c:d", "A;B:c", "A;B;", "A;B;C=d:e", "A;B,C=d:e", "A;B.C=d:e", "A;É=d:e", "A;B\"=c:d",
		"A;B=c\"", `A;B=c":d`, `A;B=c"d":e`, `A;B= "c":d`, "A;B=\t\"c\":d", `A;B="c" :d`, `A;B="c"d`, `A;B="c"d:e`, `A;B="c"=:d`, `A;B="c""`, `A;B="c""d":e`, `A;B="""`, `A;B="" `, `A;B=c,d":e`, `A;B="c",d":e`, `A;B="c"é:d`, `A;B=é"c":d`,
		"A;B=c;:d", "A;B=c;;", `A;B="c";:d`, "A;B=c,;:d", "A;B=c; C=d:e", `A;B="c"	:d`,
	} {
		fails(t, s, api.ErrForm)
		fails(t, s+"x:\n", api.ErrForm)
	}
	for _, s := range []string{
		"", "A", "a-9", "A;", "A;B", "A;B=", "A;B=c", "A;B=c,", "A;B=c,d", "A;B=c;", "A;B=c;D", "A;B=c;D=", "A;B=,", `A;B="`, `A;B="c`, `A;B="c,;:`, `A;B=""`, `A;B="c"`, `A;B="c",`, `A;B="c","`, `A;B="c";`, `A;B="c";D`, `A;B="A:b`, "A;B=é", `A;B="é`, times("a", 64), "A;" + times("b", 64), "A" + times(";B=c", 16), "A" + times(`;B="c"`, 16), "A" + times(";B=c", 15) + ";", "A" + times(";B=c", 15) + ";B", "A;B=" + times("c", 1020), `A;B="` + times(":", 1019),
	} {
		fails(t, s, api.ErrShort)
	}
}

// TestParseNames (P11.3): each byte in each name, and names of 64 bytes and one more.
func TestParseNames(t *testing.T) {
	const letters = "ABCDEFGHIJKLMNOPQRSTUVWXYZabcdefghijklmnopqrstuvwxyz0123456789-"
	for b := range 128 {
		one := string(rune(b))
		if strings.Contains(letters, one) {
			great := strings.ToUpper(one)
			parses(t, one+":v", prop(great, "v"))
			parses(t, "A"+one+"b:v", prop("A"+great+"B", "v"))
			parses(t, "A;"+one+"=v:w", prop("A", "w", param(great, "v")))
			parses(t, "A;b"+one+"C=v:w", prop("A", "w", param("B"+great+"C", "v")))
			continue
		}
		fails(t, one, api.ErrForm)
		fails(t, "A;"+one, api.ErrForm)
		fails(t, "A;"+one+"=v:w", api.ErrForm)
		likeModel(t, "A;b"+one+"C=v:w")
	}
	for _, one := range []string{"a", "Z", "0", "-"} {
		great := strings.ToUpper(one)
		for _, long := range []int{1, 2, 63, 64} {
			name, as := times(one, long), times(great, long)
			parses(t, name+":v", prop(as, "v"))
			parses(t, name+";B=c:v", prop(as, "v", param("B", "c")))
			parses(t, "A;"+name+"=c:v", prop("A", "v", param(as, "c")))
			parses(t, name+";"+name+"=c;"+name+"=d:v", prop(as, "v", param(as, "c"), param(as, "d")))
			fails(t, name, api.ErrShort)
			fails(t, "A;"+name, api.ErrShort)
			fails(t, name+" ", api.ErrForm)
			fails(t, name+"=", api.ErrForm)
			fails(t, name+"\x00", api.ErrForm)
			fails(t, "A;"+name+":", api.ErrForm)
			fails(t, "A;"+name+";", api.ErrForm)
			fails(t, "A;"+name+" =", api.ErrForm)
		}
		for _, long := range []int{65, 66, 100, 500} {
			name := times(one, long)
			for _, rest := range []string{"", ":", ":v", " ", "=", ";", ";B=c:v", "\x00", "\n", "é", times("x", 100)} {
				fails(t, name+rest, api.ErrLong)
				fails(t, "A;"+name+rest, api.ErrLong)
				fails(t, "A;B=c;"+name+rest, api.ErrLong)
				fails(t, `A;B="c";`+name+rest, api.ErrLong)
			}
			parses(t, "A:"+name, prop("A", name)) // what is no name may be as long
			parses(t, "A;B="+name+`,"`+name+`":c`, prop("A", "c", param("B", name, name)))
		}
	}
}

// TestParseMany (P11.3): 16 parameters and one more.
func TestParseMany(t *testing.T) {
	for _, one := range []string{";B=c", ";b=", `;B="c"`, `;B=";:,"`, ";B=c,d", `;B=c,"d;"`} {
		p, _ := modelParse("A" + one + ":")
		for n := range 17 {
			parses(t, "A"+times(one, n)+":v", prop("A", "v", slices.Repeat(p.Params, n)...))
			parses(t, "A"+times(one, n)+":"+times(";", 20), prop("A", times(";", 20), slices.Repeat(p.Params, n)...))
		}
		for _, rest := range []string{"", ":", ":v", ";", "B", "B=c", "B=c:v", "=", "\x00", `"`, "é", times("x", 65), one, times(one, 5)} {
			fails(t, "A"+times(one, 16)+";"+rest, api.ErrMany)
		}
		fails(t, "A"+times(one, 15)+";;", api.ErrForm) // the 17th, where none may stand at all
		fails(t, "A"+times(one, 15)+";B;", api.ErrForm)
		fails(t, "A"+times(one, 16)+",", api.ErrShort)
		fails(t, "A"+times(one, 16)+"\x00", api.ErrForm)
		fails(t, "A"+times(one, 16)+"\x00;", api.ErrForm)
		parses(t, "A"+times(one, 15)+`;C="`+times(";", 30)+`":`, prop("A", "", append(slices.Repeat(p.Params, 15), param("C", times(";", 30)))...))
	}
}

// TestParseControls (P11.3): bytes below 32, and 127, in each place; none but 9 may stand in one.
func TestParseControls(t *testing.T) {
	for b := range 128 {
		one := string(rune(b))
		isControl := b < 32 && b != 9 || b == 127
		for _, c := range []struct{ ahead, behind string }{
			{"A:", ""}, {"A:a", "b"}, {"A;B=c:", "d"}, {"A;B=\"c\":d", ""},
			{"A;B=\"", "\":d"}, {"A;B=\"c", "d\":e"}, {"A;B=c,\"d", "\":e"},
			{"A;B=", ":d"}, {"A;B=c", "d:e"}, {"A;B=c,", ":d"}, {"A;B=c,d", ";E=:"},
			{"", "A:b"}, {"A", ":b"}, {"A;", "B=c:d"}, {"A;B", "=c:d"}, {"A;B=\"c\"", ":d"},
		} {
			s := c.ahead + one + c.behind
			likeModel(t, s)
			if isControl {
				fails(t, s, api.ErrForm)
				fails(t, c.ahead+one, api.ErrForm)
				fails(t, c.ahead+one+"\x00", api.ErrForm)
			}
		}
		if b != '"' {
			e := api.OK
			if isControl {
				e = api.ErrForm
			}
			if _, f := line.Parse("A;B=\"" + one + "\":d"); f != e {
				t.Errorf("the byte %d between two \": %d, want %d", b, f, e)
			}
		}
	}
	for _, b := range []string{"\x00", "\x08", "\n", "\x1f", "\x7f"} {
		for _, s := range right() {
			for at := range len(s) + 1 {
				if at == len(s) || s[at]&0xc0 != 0x80 {
					fails(t, s[:at]+b+s[at:], api.ErrForm)
				}
			}
		}
	}
	for _, b := range []string{"\u0080", "\u0085", "\u009f", "\u2028"} { // controls elsewhere, none here
		parses(t, "A;B="+b+`,"`+b+`":`+b, prop("A", b, param("B", b, b)))
	}
}

// TestParseUtf8 (P11.3): what is no UTF-8, anywhere, ahead of whatever else is wrong but the length.
func TestParseUtf8(t *testing.T) {
	for _, s := range append(right(), "", "A", ":", "A;", `A;B="`, times("a", 65), "A"+times(";B=c", 17), "\x00", "A\n:") {
		for k := range len(s) + 1 {
			for _, wrong := range []string{"\xff", "\x80", "\xc0\x80", "\xc3", "\xe2\x82", "\xed\xa0\x80", "\xf4\x90\x80\x80"} {
				if k < len(s) && s[k]&0xc0 == 0x80 {
					continue // a number goes on there
				}
				fails(t, s[:k]+wrong+s[k:], api.ErrForm)
				fails(t, s[:k]+wrong, api.ErrForm)
			}
		}
	}
}

// TestParseLong (P11.3): 1024 bytes and one more, of what is right and what is not.
func TestParseLong(t *testing.T) {
	for _, c := range []struct {
		begin, with, end string
		e                api.Errno // if it is not too long
	}{
		{"A:", "x", "", api.OK},
		{"A:", "é", "", api.OK}, // bytes count, not what they mean
		{"A;B=", "x", ":", api.OK},
		{"A;B=\"", ":", "\":v", api.OK},
		{"A;B=", ",", ":", api.OK},
		{"A;B=", "x", "", api.ErrShort},
		{"A;B=\"", "x", "", api.ErrShort},
		{"A:", "x", "\x00", api.ErrForm},
		{"A:", "x", "\xff", api.ErrForm},
		{"\xff", "x", "", api.ErrForm},
		{":", "x", "", api.ErrForm},
		{"", "x", "", api.ErrLong},
		{"A", ";B=", ":", api.ErrMany},
		{"", "\xff", "", api.ErrForm},
		{"", "\x00", "", api.ErrForm},
	} {
		n := 1024 - len(c.begin) - len(c.end)
		s := c.begin + times(c.with, n/len(c.with)) + c.end
		if more := 1024 - len(s); more > 0 {
			s = c.begin + times("A", more) + s[len(c.begin):]
		}
		if _, e := line.Parse(s); e != c.e || len(s) != 1024 {
			t.Errorf("Parse(%.20q .. %q), of %d bytes: %d, want %d", s, c.end, len(s), e, c.e)
		}
		likeModel(t, s)
		for _, more := range []string{"x", "\x00", "\xff", ":", times("x", 1<<20)} {
			fails(t, s+more, api.ErrLong)
			fails(t, more+s, api.ErrLong)
		}
	}
	parses(t, "A:"+times("x", 1022), prop("A", times("x", 1022)))
	fails(t, "A:"+times("x", 1023), api.ErrLong)
}

// TestParseFirst (P11.3): of several faults the first one.
func TestParseFirst(t *testing.T) {
	name := times("n", 65)
	for _, c := range []struct {
		s string
		e api.Errno
	}{
		{name + "\x00", api.ErrLong},
		{name + times(";B=c", 17), api.ErrLong},
		{"\x00" + name, api.ErrForm},
		{times("n", 64) + "\x00" + name, api.ErrForm},
		{"A;" + name + ";", api.ErrLong},
		{"A;B=\x00;" + name, api.ErrForm},
		{"A;B=c;" + name + "=\x00", api.ErrLong},
		{"A;B=c\";" + name, api.ErrForm},
		{"A" + times(";B=c", 15) + ";" + name + "=;", api.ErrLong},
		{"A" + times(";B=c", 16) + ";" + name, api.ErrMany},
		{"A" + times(";B=c", 16) + ";\x00", api.ErrMany},
		{"A" + times(";B=c", 15) + ";B=\x00;", api.ErrForm},
		{"A" + times(";B=c", 15) + ";\x00;" + name, api.ErrForm},
		{"A" + times(";B=c", 15) + `;B="c"d;`, api.ErrForm},
		{"A:\x00" + name, api.ErrForm},
		{"A:" + name + "\x00", api.ErrForm},
		{"A:" + times(";", 17) + "\x00", api.ErrForm},
		{name + "\xff", api.ErrForm}, // ahead of all but the length
		{"A" + times(";B=c", 17) + "\xff", api.ErrForm},
		{"\xff" + times("x", 1024), api.ErrLong},
		{":" + times("x", 1024), api.ErrLong},
	} {
		fails(t, c.s, c.e)
	}
}

// TestParseBytes (P11.3): each byte of right properties put by each other one, left out, and one more at each place.
func TestParseBytes(t *testing.T) {
	for _, s := range right() {
		if _, e := line.Parse(s); e != api.OK {
			t.Errorf("Parse(%q): %d", s, e)
		}
		for at := range len(s) + 1 {
			for b := range 256 {
				one := string([]byte{byte(b)})
				likeModel(t, s[:at]+one+s[at:])
				if at < len(s) {
					likeModel(t, s[:at]+one+s[at+1:])
				}
			}
		}
	}
}

// TestParsePieces (P11.3): each piece of right properties alone, and left out.
func TestParsePieces(t *testing.T) {
	for _, s := range right() {
		for from := range len(s) + 1 {
			for to := from; to <= len(s); to++ {
				likeModel(t, s[from:to])
				likeModel(t, s[:from]+s[to:])
			}
		}
	}
}

// TestParseAll (P11.3): all short texts of the bytes that matter, as far as a property goes on with them, and one more.
func TestParseAll(t *testing.T) {
	var from func(s string, n int, pieces []string)
	from = func(s string, n int, pieces []string) {
		likeModel(t, s)
		if n == 0 || !isBeginning(s) {
			return
		}
		for _, p := range pieces {
			from(s+p, n-1, pieces)
		}
	}
	from("", 8, []string{"a", ";", ":", "=", ",", `"`})
	from("", 5, []string{"a", ";", ":", "=", ",", `"`, " ", "\t", "\x00", "-", "é", "\n", "B", "_"})
	from("a;b=", 6, []string{"a", ";", ":", "=", ",", `"`, " ", "\x1f", "é"})
	from(`a;b="c",`, 5, []string{"a", ";", ":", "=", ",", `"`, "\t", "\x7f", "é"})
	for s := range all(5, "a", ";", ":", "=", ",", `"`, "\x00") {
		likeModel(t, s)
	}
}

// TestParseMemory (0.5): lists of one answer, and of two, share no memory.
func TestParseMemory(t *testing.T) {
	const s = "A;B=c,d;E=f:g"
	want := prop("A", "g", param("B", "c", "d"), param("E", "f"))
	p, _ := line.Parse(s)
	q, _ := line.Parse(s)
	for range 3 {
		p.Params[0].Values = append(p.Params[0].Values, "x")
	}
	p.Params[0].Values[0] = "y"
	if !alike(q, want) || !alike(prop(p.Name, p.Value, p.Params[1]), prop("A", "g", param("E", "f"))) {
		t.Errorf("Parse(%q) tells %q, and %q", s, fmt.Sprint(p), fmt.Sprint(q))
	}
}
