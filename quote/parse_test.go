package quote_test

import (
	"strings"
	"testing"

	"gong/api"
	"gong/quote"
)

// 10.2: texts that are not as they would be printed, and what stands behind.
func TestParse(t *testing.T) {
	for _, x := range []struct {
		s    string
		data []api.Element
		rest string
	}{
		{"-", nil, ""}, {"--", nil, "-"}, {"- text", nil, " text"}, {"-text", nil, "text"}, {"-]", nil, "]"}, {"-\xff", nil, "\xff"}, {"-[a]", nil, "[a]"}, {"-[", nil, "["},
		{"[a]", of(el("a")), ""}, {"[a] ", of(el("a")), " "}, {"[a]-", of(el("a")), "-"}, {"[a]]", of(el("a")), "]"}, {"[a] [b]", of(el("a")), " [b]"}, {"[a]x[b]", of(el("a")), "x[b]"}, {"[a]\xff[b", of(el("a")), "\xff[b"}, {"[a]\n", of(el("a")), "\n"}, {"[a][b] [", of(el("a"), el("b")), " ["},
		{`[a b="c\]"]`, of(el("a", "b", "c]")), ""}, {`[a b="c\d"]`, of(el("a", "b", `c\d`)), ""}, {`[a b="\n\\n"]`, of(el("a", "b", `\n\n`)), ""}, {`[a b="\\\a"]`, of(el("a", "b", `\\a`)), ""}, {`[a b="\ "]`, of(el("a", "b", `\ `)), ""}, {`[a b="\["]`, of(el("a", "b", `\[`)), ""}, {`[a b="\="]`, of(el("a", "b", `\=`)), ""},
		{`[a b="\\"]`, of(el("a", "b", `\`)), ""}, {`[a b="\\\\"]`, of(el("a", "b", `\\`)), ""}, {`[a b="\\\""]`, of(el("a", "b", `\"`)), ""}, {`[a b="\"\]\\"]`, of(el("a", "b", `"]\`)), ""}, {`[a b="["]`, of(el("a", "b", "[")), ""},
		{"[a b=\"\\\xe2\x82\xac\"]", of(el("a", "b", "\\\xe2\x82\xac")), ""}, {"[a b=\"\n\x00\"]", of(el("a", "b", "\n\x00")), ""},
		{`[a b="c"]"]`, of(el("a", "b", "c")), `"]`}, {`[a b="" b=""]`, of(el("a", "b", "", "b", "")), ""}, {`[[]`, of(el("[")), ""}, {`[-]`, of(el("-")), ""}, {`[\]`, of(el(`\`)), ""}, {`[[][-]`, of(el("["), el("-")), ""}, {`[a \="x"]`, of(el("a", `\`, "x")), ""},
	} {
		reads(t, x.s, x.data, x.rest)
	}
}

// 10.2: texts that begin with no data's.
func TestParseRefuses(t *testing.T) {
	for _, s := range []string{
		"", " ", " -", " [a]", "a", "]", `"`, "\xff", "+", "\n-", "nil", "(a)", "\xef\xbb\xbf-", "\xef\xbb\xbf[a]",
		"[", "[]", "[ ]", "[ a]", "[a", "[a ", "[a ]", "[a  ]", "[a b]", "[a b ]", "[a b=]", "[a b=c]", `[a b="]`, `[a b="c]`, `[a b="c`, `[a b="c"`, `[a b="c" `, `[a b="c" ]`, `[a b="c"x]`, `[a b="c"d="e"]`, `[a b="c"  d="e"]`, `[a  b="c"]`, `[a b ="c"]`, `[a b= "c"]`, `[a b='c']`, `[a b="c']`, `[a =""]`, `[a ="c"]`, `[a b=c"]`, `[a b"c"]`, `[a b=="c"]`, `[ab="c"]`, `[="c"]`, `[a" b="c"]`, `[a= b="c"]`, "[a\tb=\"c\"]", "[a\nb=\"c\"]", `[a,b="c"]]x`, "[a\x00]", "[a\x7f]", "[\xc3\xa4]", "[a \xc3\xa4=\"\"]", "[a \xff=\"\"]", "[\xff]",
		`[a b="\"]`, `[a b="\]`, `[a b="\]]`, `[a b="]"`, `[a b="\\\"]`, `[a b="\`, `[a b="\\`, `[a b="\\"`, `[a b="c]d"]`, `[a b="]"]`, `[a b="c""]`, `[a b="c"d"]`, `[a b="\\"`,
		"[a][", "[a][]", "[a][b", "[a][ b]", "[a][a]", "[a][b][a]", "[a x=\"1\"][a x=\"2\"]", "[a][[", "[a][a b=c]", "[a][-", "[a][b][",
		"[a b=\"\xff\"]", "[a b=\"\xc3\"]", "[a b=\"\xc3\\\"\"]", "[a b=\"\xe2\x82\\\xac\"]", "[a b=\"c\"][d e=\"\x80\"]", "[a b=\"\xed\xa0\x80\"]",
	} {
		if _, _, ok := plainParse(s); ok {
			t.Errorf("%q begins with some", s)
		}
		refuses(t, s)
	}
	for _, s := range wrongNames() {
		if s != "a]" { // which begins with an element
			refuses(t, "["+s+"]")
			refuses(t, "["+s+` b="c"]`)
		}
		refuses(t, "[a "+s+`="c"]`)
		refuses(t, `[a b="c" `+s+`="c"]`)
	}
}

// parses holds Parse of s to the chapter's words.
func parses(t *testing.T, s string) {
	t.Helper()
	if data, rest, ok := plainParse(s); ok {
		reads(t, s, data, rest)
	} else {
		refuses(t, s)
	}
}

// 10.2: all short texts, behind some beginnings.
func TestShortTexts(t *testing.T) {
	symbols := []string{"[", "]", `"`, `\`, "=", " ", "-", "a", "\xff", "\xc3\xa4"}
	for _, ahead := range []string{"", "[a", "[a b", `[a b="`, `[a b="c"`, "[a]"} {
		walk(4, func(s string) { parses(t, ahead+s) }, symbols...)
	}
	walk(7, func(s string) { parses(t, `[a b="`+s+`"]`) }, `\`, `"`, "]", "x")
}

// 10.2: texts that differ from some known ones by a byte: another one, one more, or
// one less; and texts that are cut short.
func TestNearTexts(t *testing.T) {
	for _, x := range append(known, struct {
		data []api.Element
		s    string
	}{s: `[a \="\\\x\"" [="]`}) {
		s := x.s + " \xff"
		for i := range len(s) {
			parses(t, s[:i])
			parses(t, s[i:])
			parses(t, s[:i]+s[i+1:])
			for b := range 256 {
				c := string([]byte{byte(b)})
				parses(t, s[:i]+c+s[i+1:])
				parses(t, s[:i]+c+s[i:])
			}
		}
	}
}

// 10.2: a text may be longer than what is printed.
func TestLongTexts(t *testing.T) {
	v := strings.Repeat(`]"\x`, 1<<18)
	data := of(el("a", "b", v, "c", v), el("d"), el("e", "f", v))
	reads(t, plainText(data)+" behind", data, " behind")
	reads(t, "["+strings.Repeat("n", 32)+"]"+strings.Repeat("]", 1<<20), of(el(strings.Repeat("n", 32))), strings.Repeat("]", 1<<20))
	reads(t, "-"+strings.Repeat("[", 1<<20), nil, strings.Repeat("[", 1<<20))
	reads(t, `[a b="`+strings.Repeat(`\a`, 1<<20)+`"]`, of(el("a", "b", strings.Repeat(`\a`, 1<<20))), "")
}

// 10.4: what is read, printed, and read again is the same.
func TestReadAgain(t *testing.T) {
	walk(6, func(s string) {
		data, _, e := quote.Parse(`[a b="` + s + `"]`)
		if e != api.OK {
			return
		}
		text, e := quote.Print(data)
		if e != api.OK {
			t.Errorf("%q: %d", s, e)
		}
		reads(t, text, data, "")
	}, `\`, `"`, "]", " ", "x")
}
