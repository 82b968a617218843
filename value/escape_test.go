package value_test

import (
	"strings"
	"testing"

	"almanac/api"
)

// TestEscape (P13.3): the four bytes alone, in a row, at each end, and others beside them.
func TestEscape(t *testing.T) {
	for _, c := range [][2]string{
		{"", ""},
		{"a", "a"},
		{`\`, `\\`},
		{`;`, `\;`},
		{`,`, `\,`},
		{"\n", `\n`},
		{`\\`, `\\\\`},
		{`;;`, `\;\;`},
		{`,,`, `\,\,`},
		{"\n\n", `\n\n`},
		{"\\;,\n", `\\\;\,\n`},
		{"\n,;\\", `\n\,\;\\`},
		{`\n`, `\\n`},
		{`\N`, `\\N`},
		{`\,`, `\\\,`},
		{`\;`, `\\\;`},
		{"\\\n", `\\\n`},
		{"a,b", `a\,b`},
		{",a;", `\,a\;`},
		{"n", "n"},
		{"N", "N"},
		{"a\r\nb", "a\r\\nb"},
		{"a\nb\nc", `a\nb\nc`},
		{" \t:=\"'/", " \t:=\"'/"},
		{"\x00\x01\x7f\x80\xff", "\x00\x01\x7f\x80\xff"},
		{"\u00e9,\u20ac;\U0001f600", "\u00e9\\,\u20ac\\;\U0001f600"},
		{strings.Repeat(",", 100000), strings.Repeat(`\,`, 100000)},
		{strings.Repeat("\n", 100000), strings.Repeat(`\n`, 100000)},
		{strings.Repeat("x", 100000), strings.Repeat("x", 100000)},
	} {
		checkEscape(t, c[0], c[1])
		checkUnescape(t, c[1], c[0], api.OK)
	}
}

// TestEscapeBytes (P13.3, P13.8): each byte, and all pairs of them.
func TestEscapeBytes(t *testing.T) {
	for a := range 256 {
		for b := range 256 {
			s := string([]byte{byte(a), byte(b)})
			checkEscape(t, s[:1], modelEscape(s[:1]))
			checkEscape(t, s, modelEscape(s))
		}
		want := string([]byte{byte(a)})
		switch a {
		case 10:
			want = `\n`
		case ',', ';', '\\':
			want = `\` + want
		}
		checkEscape(t, string([]byte{byte(a)}), want)
	}
}

// TestUnescape (P13.3): what a \ is followed by, and what stands as it is.
func TestUnescape(t *testing.T) {
	for _, c := range [][2]string{
		{`\\`, `\`},
		{`\;`, `;`},
		{`\,`, `,`},
		{`\n`, "\n"},
		{`\N`, "\n"},
		{`\n\N`, "\n\n"},
		{`\\n`, `\n`},
		{`\\N`, `\N`},
		{`\\\n`, "\\\n"},
		{`\\\\`, `\\`},
		{`\\\;`, `\;`},
		{`a\,b`, "a,b"},
		{`,`, `,`}, // as they are, though Escape writes them otherwise
		{`;`, `;`},
		{"\n", "\n"},
		{",;\n", ",;\n"},
		{`\,,`, `,,`},
		{`,\,`, `,,`},
		{"\\n\n", "\n\n"},
		{"nN", "nN"},
		{"\r\n\t ", "\r\n\t "},
		{"\x00\x7f\x80\xff", "\x00\x7f\x80\xff"},
		{`\Nn`, "\nn"},
		{`\nN`, "\nN"},
	} {
		checkUnescape(t, c[0], c[1], api.OK)
		checkUnescape(t, "a"+c[0]+"b", "a"+c[1]+"b", api.OK)
	}
	for _, s := range []string{`\`, `a\`, `\\\`, `\a`, `\r`, `\t`, `\:`, `\"`, `\ `, "\\\n", "\\\r\n", "\\\x00", "\\\xff", `\M`, `\o`, `\m`, `\O`, `\,\`, `\n\`, `\\a\`, `\x\n`, `a\b\\`, `\u00e9`, "\\\u00e9", `\.`, `\-`, `\+`, `\/`, `\[`, `\]`, `\<`} {
		checkUnescape(t, s, "", api.ErrForm)
		checkUnescape(t, `a\,`+s, "", api.ErrForm)
		checkUnescape(t, s+" ", "", api.ErrForm)
	}
	checkUnescape(t, strings.Repeat(`\`, 100000), strings.Repeat(`\`, 50000), api.OK)
	checkUnescape(t, strings.Repeat(`\`, 100001), "", api.ErrForm)
}

// TestUnescapeBytes (P13.3): each byte behind a \, alone and with others around; all short texts of the bytes that matter.
func TestUnescapeBytes(t *testing.T) {
	for b := range 256 {
		one := string([]byte{byte(b)})
		for _, s := range []string{one, `\` + one, `\\` + one, `x\` + one + `y`, `\` + one + `\`, `\` + one + `n`, one + `\n`, `\n` + one, `\` + one + `\` + one} {
			want, e := modelUnescape(s)
			checkUnescape(t, s, want, e)
		}
		isMeant := strings.Contains(`\;,nN`, one)
		if _, e := modelUnescape(`\` + one); (e == api.OK) != isMeant {
			t.Errorf("the model of Unescape(%q): %d", `\`+one, e)
		}
	}
	for _, s := range short(6, `\`, ";", ",", "n", "N", "\n", "a") {
		want, e := modelUnescape(s)
		checkUnescape(t, s, want, e)
		checkEscape(t, s, modelEscape(s))
	}
}

// TestEscapeBack (P13.7, P13.8): drawn texts are written and read, and have no byte 10.
func TestEscapeBack(t *testing.T) {
	draw := newDraw(4)
	for range 50000 {
		b := make([]byte, draw.IntN(60))
		for i := range b {
			b[i] = byte(draw.IntN(256))
			if draw.IntN(2) == 0 {
				b[i] = "\\;,\nnN"[draw.IntN(6)]
			}
		}
		checkEscape(t, string(b), modelEscape(string(b)))
		want, e := modelUnescape(string(b))
		checkUnescape(t, string(b), want, e)
		if e == api.OK {
			checkEscape(t, want, modelEscape(want))
		}
	}
}
