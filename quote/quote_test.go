package quote_test

import (
	"regexp"
	"slices"
	"strings"
	"testing"
	"unicode/utf8"

	"gong/api"
	"gong/quote"
)

// The chapter's words for names, and for what is escaped in a value.
const (
	plainName  = `[!#-<>-\\^-~]{1,32}`
	plainValue = `(?:[^"\\\]]|\\(?s:.))*`
)

var (
	nameForm    = regexp.MustCompile(`\A` + plainName + `\z`)
	headForm    = regexp.MustCompile(`\A\[(` + plainName + `)`)
	paramForm   = regexp.MustCompile(`\A (` + plainName + `)="(` + plainValue + `)"`)
	escapedForm = regexp.MustCompile(`\\(["\\\]])`)
)

// plainCheck is the chapter's words for what data may be.
func plainCheck(data []api.Element) bool {
	if len(data) > 4096 {
		return false
	}
	ids := map[string]bool{}
	for _, e := range data {
		if !nameForm.MatchString(e.Id) || ids[e.Id] || len(e.Params) > 4096 {
			return false
		}
		ids[e.Id] = true
		for _, p := range e.Params {
			if !nameForm.MatchString(p.Name) || !utf8.ValidString(p.Value) {
				return false
			}
		}
	}
	return true
}

// plainEscape is the chapter's words for what is escaped.
func plainEscape(s string) string {
	for _, c := range []string{`\`, `"`, `]`} {
		s = strings.ReplaceAll(s, c, `\`+c)
	}
	return s
}

// plainText is the chapter's words for the text of data.
func plainText(data []api.Element) string {
	if len(data) == 0 {
		return "-"
	}
	var b strings.Builder
	for _, e := range data {
		b.WriteString("[" + e.Id)
		for _, p := range e.Params {
			b.WriteString(" " + p.Name + `="` + plainEscape(p.Value) + `"`)
		}
		b.WriteString("]")
	}
	return b.String()
}

// plainParse is the chapter's words for the data that s begins with.
func plainParse(s string) (data []api.Element, rest string, ok bool) {
	if strings.HasPrefix(s, "-") {
		return nil, s[1:], true
	}
	for strings.HasPrefix(s, "[") {
		m := headForm.FindStringSubmatch(s)
		if m == nil {
			return nil, "", false
		}
		e := api.Element{Id: m[1]}
		s = s[len(m[0]):]
		for m := paramForm.FindStringSubmatch(s); m != nil; m = paramForm.FindStringSubmatch(s) {
			e.Params = append(e.Params, api.Param{Name: m[1], Value: escapedForm.ReplaceAllString(m[2], "$1")})
			s = s[len(m[0]):]
		}
		if !strings.HasPrefix(s, "]") {
			return nil, "", false
		}
		s = s[1:]
		data = append(data, e)
	}
	if len(data) == 0 || !plainCheck(data) {
		return nil, "", false
	}
	return data, s, true
}

func same(a, b []api.Element) bool {
	return slices.EqualFunc(a, b, func(x, y api.Element) bool { return x.Id == y.Id && slices.Equal(x.Params, y.Params) })
}

// el is an element of an id, and of names and values by turns.
func el(id string, words ...string) api.Element {
	e := api.Element{Id: id}
	for i := 0; i < len(words); i += 2 {
		e.Params = append(e.Params, api.Param{Name: words[i], Value: words[i+1]})
	}
	return e
}

// of is data.
func of(l ...api.Element) []api.Element {
	return l
}

// known are data, and their texts.
var known = []struct {
	data []api.Element
	s    string
}{
	{nil, `-`},
	{of(el("a", "b", "c]")), `[a b="c\]"]`},
	{of(el("a")), `[a]`},
	{of(el("a"), el("b")), `[a][b]`},
	{of(el("a", "b", "")), `[a b=""]`},
	{of(el("a", "b", "1", "b", "2", "b", "1")), `[a b="1" b="2" b="1"]`},
	{of(el("exampleSDID@32473", "iut", "3", "eventSource", "Application", "eventID", "1011"), el("examplePriority@32473", "class", "high")),
		`[exampleSDID@32473 iut="3" eventSource="Application" eventID="1011"][examplePriority@32473 class="high"]`},
	{of(el("a", "q", `"`), el("A", "q", `\`), el("-", "-", "-")), `[a q="\""][A q="\\"][- -="-"]`},
	{of(el("[", "[", "[]", `\`, `\"]`)), `[[ [="[\]" \="\\\"\]"]`},
	{of(el("a", "b", " = \n\t\x00\x7f\xe2\x82\xac\xef\xbb\xbf")), "[a b=\" = \n\t\x00\x7f\xe2\x82\xac\xef\xbb\xbf\"]"},
	{of(el("a.b#c", "d.e", "x"), el("a.b", "#c", "y")), `[a.b#c d.e="x"][a.b #c="y"]`},
	{of(el("!", "~", "[a b=\"c\"]")), `[! ~="[a b=\"c\"\]"]`},
	{of(el(strings.Repeat("i", 32), strings.Repeat("n", 32), `\\`)), `[` + strings.Repeat("i", 32) + ` ` + strings.Repeat("n", 32) + `="\\\\"]`},
}

// wrongNames are none.
func wrongNames() []string {
	return []string{"", " ", "a b", " a", "a ", "a=", "=", "=a", "a]", "]", "]a", `"`, `a"`, `"a`, "\x7f", "a\x7f", "\x00", "a\n", "\x1f", "\xff", "a\x80", "\xc3\xa4", "\xe2\x82\xac", "\xef\xbb\xbfa",
		strings.Repeat("a", 33), strings.Repeat("a", 64), strings.Repeat("a", 32) + " ", strings.Repeat("a", 32+256), strings.Repeat("a", 1<<16)}
}

// names are such.
func names() []string {
	return []string{"a", "A", "0", "-", "!", "~", "[", `\`, "'", "@", "a@1", "exampleSDID@32473", "#", "<", ">", "^", "a.b", `\\`, strings.Repeat("a", 31), strings.Repeat("~", 32), "abcdefghijklmnopqrstuvwxyz[\\^_`{"}
}

// wrongValues are not UTF-8.
func wrongValues() []string {
	return []string{"\xff", "a\xff", "\x80", "\xc3", "\xc3\"", "\xc3]", "\xc3\\", "\xe2\x82", "\xe2\x82\\\xac", "\xed\xa0\x80", "\xc0\x80", "\xf4\x90\x80\x80", "a\xc3a", strings.Repeat("a", 1<<16) + "\xff"}
}

// values are UTF-8.
func values() []string {
	return []string{"", "a", " ", "\x00", "\n", "\x7f", `"`, `\`, `]`, `[`, `=`, `\\`, `\"`, `\]`, `"]`, `]"`, `\a`, `a\`, `"\]`, `\\\`, "\xc3\xa4", "\xe2\x82\xac]", "\xf0\x9f\x94\x94", "\xef\xbb\xbf", "\xef\xbf\xbf", `[a b="c"]`, strings.Repeat("v", 1000), strings.Repeat(`\`, 1000)}
}

// 10.1: each byte, at each place of a name, and each length.
func TestIsName(t *testing.T) {
	all := append(append(wrongNames(), names()...), values()...)
	for b := range 256 {
		c := string([]byte{byte(b)})
		all = append(all, c, c+"a", "a"+c, "a"+c+"a", strings.Repeat("a", 31)+c, strings.Repeat("a", 32)+c, c+strings.Repeat("a", 31))
		in := b >= 33 && b <= 126 && c != "=" && c != "]" && c != `"`
		if quote.IsName(c) != in {
			t.Errorf("%q: %t", c, !in)
		}
	}
	for long := range 300 {
		s := strings.Repeat("x", long)
		all = append(all, s)
		if quote.IsName(s) != (long >= 1 && long <= 32) {
			t.Errorf("%d bytes: %t", long, quote.IsName(s))
		}
	}
	for _, s := range all {
		if quote.IsName(s) != nameForm.MatchString(s) {
			t.Errorf("%.90q: %t", s, quote.IsName(s))
		}
	}
	for _, s := range names() {
		if !quote.IsName(s) {
			t.Errorf("%q is one", s)
		}
	}
	for _, s := range wrongNames() {
		if quote.IsName(s) {
			t.Errorf("%.90q is none", s)
		}
	}
}

// walk goes over all texts of at most so many of these symbols.
func walk(most int, do func(s string), symbols ...string) {
	var on func(s string, left int)
	on = func(s string, left int) {
		do(s)
		for _, c := range symbols {
			if left > 0 {
				on(s+c, left-1)
			}
		}
	}
	on("", most)
}

// 10.1: what is escaped, of bytes that are UTF-8 and of others.
func TestEscape(t *testing.T) {
	for _, x := range []struct{ s, want string }{
		{"", ""}, {"abc", "abc"}, {`"`, `\"`}, {`\`, `\\`}, {`]`, `\]`}, {`[`, `[`}, {`a"b\c]d`, `a\"b\\c\]d`}, {`\"`, `\\\"`}, {`\\`, `\\\\`}, {"=\x00\n \x7f'`", "=\x00\n \x7f'`"}, {"\xff]\x80", "\xff\\]\x80"}, {"\xe2\x82\xac\"", "\xe2\x82\xac\\\""},
	} {
		if s := quote.Escape(x.s); s != x.want {
			t.Errorf("Escape(%q) = %q", x.s, s)
		}
	}
	for b := range 256 {
		c := string([]byte{byte(b)})
		if s := quote.Escape("a" + c + c); s != plainEscape("a"+c+c) {
			t.Errorf("Escape of a and %q twice: %q", c, s)
		}
	}
	walk(6, func(s string) {
		if got := quote.Escape(s); got != plainEscape(s) {
			t.Errorf("Escape(%q) = %q", s, got)
		}
	}, `"`, `\`, `]`, `[`, "a", "\xff")
}

// holds holds data to the chapter's words, there and back, with anything behind.
func holds(t *testing.T, data []api.Element) {
	t.Helper()
	code, want := api.ErrQuote, ""
	if plainCheck(data) {
		code, want = api.OK, plainText(data)
	}
	if e := quote.Check(data); e != code {
		t.Errorf("Check(%.300q) = %d, and not %d", tell(data), e, code)
	}
	if len(want) > 65536 {
		code = api.ErrLong
	}
	s, e := quote.Print(data)
	if e != code || code == api.OK && s != want || code != api.OK && s != "" {
		t.Errorf("Print(%.300q) = %.90q (%d), %d, and not %.90q (%d), %d", tell(data), s, len(s), e, want, len(want), code)
	}
	if want == "" {
		return
	}
	for _, behind := range []string{"", " ", " text", "-", "]", `"`, "\xff\x00", "a[b]", " [a]", `\`} {
		reads(t, want+behind, data, behind)
	}
}

// tell is enough of data to know them again.
func tell(data []api.Element) []string {
	var l []string
	for _, e := range data[:min(3, len(data))] {
		l = append(l, e.Id)
		for _, p := range e.Params[:min(3, len(e.Params))] {
			l = append(l, p.Name, p.Value[:min(20, len(p.Value))])
		}
	}
	return l
}

// reads holds s to beginning with the text of data.
func reads(t *testing.T, s string, data []api.Element, behind string) {
	t.Helper()
	if back, rest, e := quote.Parse(s); !same(back, data) || rest != behind || e != api.OK {
		t.Errorf("Parse(%.90q) = %.300q, %.90q, %d", s, tell(back), rest, e)
	}
}

// refuses holds s to beginning with no data's text.
func refuses(t *testing.T, s string) {
	t.Helper()
	if data, rest, e := quote.Parse(s); len(data) != 0 || rest != "" || e != api.ErrQuote {
		t.Errorf("Parse(%.90q) = %.300q, %.90q, %d", s, tell(data), rest, e)
	}
}

// 10.1, 10.2, 10.4: what is known, there and back.
func TestKnown(t *testing.T) {
	for _, x := range known {
		if e := quote.Check(x.data); e != api.OK {
			t.Errorf("Check(%q) = %d", tell(x.data), e)
		}
		if s, e := quote.Print(x.data); s != x.s || e != api.OK {
			t.Errorf("Print(%q) = %q, %d", tell(x.data), s, e)
		}
		reads(t, x.s, x.data, "")
		holds(t, x.data)
	}
}

// 10.1: names, of elements and of params, and values, those that may be and others,
// ahead of and behind what may be.
func TestNamesAndValues(t *testing.T) {
	try := func(e api.Element, want api.Code) {
		for _, data := range [][]api.Element{{e}, {el("ahead", "n", "v"), e}, {e, el("behind", "n", "v")}} {
			holds(t, data)
			if got := quote.Check(data); got != want {
				t.Errorf("Check(%.300q) = %d, and not %d", tell(data), got, want)
			}
		}
	}
	for want, l := range map[api.Code][]string{api.OK: names(), api.ErrQuote: wrongNames()} {
		for _, s := range l {
			try(el(s), want)
			try(el(s, "b", "c"), want)
			try(el("id", s, "c"), want)
			try(el("id", s, "c", "b", "d"), want)
			try(el("id", "b", "c", s, "d"), want)
		}
	}
	for want, l := range map[api.Code][]string{api.OK: values(), api.ErrQuote: wrongValues()} {
		for _, s := range l {
			try(el("id", "b", s), want)
			try(el("id", "b", s, "c", "d"), want)
			try(el("id", "b", "c", "b", s), want)
		}
	}
}

// 10.1: no two elements have the same id, wherever they stand; params may.
func TestIdsThatComeAgain(t *testing.T) {
	for i := range 5 {
		for j := range 5 {
			data := of(el("a"), el("b", "a", "a"), el("c"), el("d"), el("e"))
			data[i].Id = data[j].Id
			want := api.ErrQuote
			if i == j {
				want = api.OK
			}
			holds(t, data)
			if e := quote.Check(data); e != want {
				t.Errorf("%q: %d", tell(data), e)
			}
			if i != j {
				refuses(t, plainText(data))
			}
		}
	}
	for _, data := range [][]api.Element{{el("a"), el("A")}, {el("a"), el("aa")}, {el("a", "a", "a", "a", "a"), el("b", "a", "a")}, {el("a", "b", "x", "b", "y", "b", "x")}} {
		holds(t, data)
		if e := quote.Check(data); e != api.OK {
			t.Errorf("%q: %d", tell(data), e)
		}
	}
}

// 10.3: the first of a name, in the first element of an id.
func TestGet(t *testing.T) {
	data := of(el("a", "x", "1", "y", "2", "x", "3"), el("b"), el("c", "y", "", "z", "5"), el("a", "w", "6", "x", "7"), el("b", "x", "8"), el("", "", "9", "x", ""))
	for _, x := range []struct {
		id, name, want string
		ok             bool
	}{
		{"a", "x", "1", true}, {"a", "y", "2", true}, {"a", "w", "", false}, {"a", "z", "", false}, {"a", "", "", false}, {"a", "X", "", false}, {"a", "a", "", false},
		{"b", "x", "", false}, {"b", "b", "", false}, {"c", "y", "", true}, {"c", "z", "5", true}, {"c", "x", "", false},
		{"", "", "9", true}, {"", "x", "", true}, {"", "y", "", false}, {"A", "x", "", false}, {"x", "x", "", false}, {"d", "x", "", false}, {"a ", "x", "", false}, {"1", "x", "", false},
	} {
		if v, ok := quote.Get(data, x.id, x.name); v != x.want || ok != x.ok {
			t.Errorf("%q, %q: %q, %t", x.id, x.name, v, ok)
		}
		if v, ok := quote.Get(nil, x.id, x.name); v != "" || ok {
			t.Errorf("%q, %q of nothing: %q, %t", x.id, x.name, v, ok)
		}
	}
	for _, x := range known {
		for _, e := range x.data {
			for i, p := range e.Params {
				first := slices.IndexFunc(e.Params, func(q api.Param) bool { return q.Name == p.Name })
				if v, ok := quote.Get(x.data, e.Id, p.Name); v != e.Params[first].Value || !ok {
					t.Errorf("%q, %q, %d: %q, %t", e.Id, p.Name, i, v, ok)
				}
			}
		}
	}
}

// 10.3: data are the same, if all their parts are, in order.
func TestSame(t *testing.T) {
	all := [][]api.Element{
		{}, {el("")}, {el(""), el("")}, {el("a")}, {el("A")}, {el("a ")}, {el("a"), el("b")}, {el("b"), el("a")}, {el("b")}, {el("a"), el("a")}, {el("ab")},
		{el("a", "", "")}, {el("a", "b", "")}, {el("a", "", "b")}, {el("a", "b", "c")}, {el("a", "c", "b")}, {el("a", "b", "c", "b", "c")}, {el("a", "b", "c", "d", "e")}, {el("a", "d", "e", "b", "c")}, {el("a", "b", "\xff")}, {el("a", "b", "\xfe")},
		{el("a", "b", "c"), el("b")}, {el("a"), el("b", "b", "c")}, {el("a", "b", "c"), el("b", "b", "c")}, {el("b", "b", "c")}, {el("a", "B", "c")}, {el("a", "b", "C")}, {el("a", "bc", "")}, {el("a", "", "bc")},
		make([]api.Element, 5000), make([]api.Element, 5001), {{Id: "a", Params: make([]api.Param, 5000)}}, {{Id: "a", Params: make([]api.Param, 5001)}},
	}
	for i, a := range all {
		for j, b := range all {
			b = slices.Clone(b)
			for k := range b {
				b[k].Params = slices.Clone(b[k].Params)
			}
			if quote.Same(a, b) != (i == j) {
				t.Errorf("%d, %d, %.300q, %.300q: %t", i, j, tell(a), tell(b), i != j)
			}
		}
	}
}
