package quote_test

import (
	"strings"
	"testing"

	"gong/api"
	"gong/quote"
)

// oddBytes are so many bytes that no chance makes, but look so.
func oddBytes(long, from int) string {
	room := make([]byte, long)
	for i := range room {
		x := uint64(from+i+1) * 0x9E3779B97F4A7C15
		x = (x ^ x>>30) * 0xBF58476D1CE4E5B9
		x = (x ^ x>>27) * 0x94D049BB133111EB
		room[i] = byte(x ^ x>>31)
	}
	return string(room)
}

// P1, R5: every call ends at all arguments; what is refused answers nothing.
func TestAllArguments(t *testing.T) {
	const long = 1 << 17
	texts := []string{"", strings.Repeat("[", long), strings.Repeat("[a]", long), strings.Repeat("[a b=\"\"]", long/8), "[" + strings.Repeat("a", long), "[a" + strings.Repeat(" b=\"\"", long), "[a " + strings.Repeat("b", long) + `=""]`,
		`[a b="` + strings.Repeat("c", long), `[a b="` + strings.Repeat(`\`, long), `[a b="` + strings.Repeat(`\`, long+1) + `"]`, `[a b="` + strings.Repeat("\xff", long) + `"]`, strings.Repeat("\xff", long), strings.Repeat("\x00", long), strings.Repeat("]", long), strings.Repeat("-", long), "[a]" + strings.Repeat("[", long)}
	for i := range 300 {
		texts = append(texts, oddBytes(i, 1000*i), "["+oddBytes(i%9, 1000*i), `[a b="`+oddBytes(i%20, 1000*i)+`"]`)
	}
	for _, s := range texts {
		parses(t, s)
		holds(t, of(el(s)))
		holds(t, of(el("a", s, s)))
		holds(t, of(el("a", "b", s)))
		if quote.IsName(s) != nameForm.MatchString(s) || quote.Escape(s) != plainEscape(s) {
			t.Errorf("%.90q: %t, %.90q", s, quote.IsName(s), quote.Escape(s))
		}
		data := of(el(s, s, s))
		if v, ok := quote.Get(data, s, s); v != s || !ok || !quote.Same(data, of(el(s, s, s))) {
			t.Errorf("%.90q: %.90q, %t", s, v, ok)
		}
	}
	for _, data := range [][]api.Element{make([]api.Element, 1), make([]api.Element, 5000), {{Params: make([]api.Param, 1)}}, {{Id: "a", Params: make([]api.Param, 1)}}, {{Id: "a", Params: make([]api.Param, 5000)}}} {
		holds(t, data)
	}
}

// R1: what is wrong in several ways is refused by what is named first: data that may
// not be, and then a text that would be too long.
func TestFirstWrongThing(t *testing.T) {
	v := strings.Repeat("v", 1<<16)
	for _, x := range []struct {
		data []api.Element
		want api.Code
	}{
		{of(el("a", "b", v)), api.ErrLong},
		{of(el("a", "b", v+"\xff")), api.ErrQuote},
		{of(el("a", "b", v, "c", "\xff")), api.ErrQuote},
		{of(el("a", "b", v), el("c"), el("c")), api.ErrQuote},
		{of(el("a", "b", v), el("")), api.ErrQuote},
		{of(el("a", "b", v), el("c", "=", "")), api.ErrQuote},
		{append(many(4096, 14), el("a", "b", v)), api.ErrQuote},
		{of(el("a", "b", v), params(4097, 0)), api.ErrQuote},
	} {
		if s, e := quote.Print(x.data); s != "" || e != x.want {
			t.Errorf("%.300q: %.90q, %d, and not %d", tell(x.data), s, e, x.want)
		}
	}
}

// R2: what the chapter does not refuse may be: names that look like other things,
// values with controls and marks, the same name again, elements without params; to
// Get and Same, data that may not be.
func TestWhatIsNotRefused(t *testing.T) {
	for _, data := range [][]api.Element{{el("-")}, {el("[", "[", "[")}, {el(`\`, `\`, `\`)}, {el("a", "a", "\x00\x1b\x7f\xef\xbb\xbf\xef\xbf\xbe")}, {el("a", "b", "", "b", "")}, {el("a"), el("A")}, {el("no-at-sign"), el("@"), el("a@b@c")}} {
		holds(t, data)
		if e := quote.Check(data); e != api.OK {
			t.Errorf("%q: %d", tell(data), e)
		}
	}
	wrong := of(el("", "\xff", "\xfe"), el(""), el(" ", "", ""))
	if v, ok := quote.Get(wrong, "", "\xff"); v != "\xfe" || !ok || !quote.Same(wrong, of(el("", "\xff", "\xfe"), el(""), el(" ", "", ""))) {
		t.Errorf("%q, %t", v, ok)
	}
}

// R3: no elements, or no params, are the same, be they nil or empty.
func TestNothing(t *testing.T) {
	for _, data := range [][]api.Element{nil, {}} {
		if s, e := quote.Print(data); s != "-" || e != api.OK || quote.Check(data) != api.OK {
			t.Errorf("%q, %d", s, e)
		}
		if !quote.Same(data, nil) || !quote.Same([]api.Element{}, data) || quote.Same(data, of(el(""))) {
			t.Error(data)
		}
	}
	a, b := of(api.Element{Id: "a"}), of(api.Element{Id: "a", Params: []api.Param{}})
	for _, data := range [][]api.Element{a, b} {
		if s, e := quote.Print(data); s != "[a]" || e != api.OK || !quote.Same(a, data) || !quote.Same(data, b) {
			t.Errorf("%q, %d", s, e)
		}
	}
}

// R4, R7: what is handed in stays, its spare room and what lies behind a list's
// length, too.
func TestArgumentsStay(t *testing.T) {
	whole := func() []api.Element {
		return of(el("a", "b", "c", "d", "e]", "\xff", "\xff"), el("f", "g", "h", "", ""), el("a", "wrong", "\xff"), el(""))
	}
	cut := func(l []api.Element) []api.Element {
		l[0].Params, l[1].Params = l[0].Params[:2], l[1].Params[:1]
		return l[:2]
	}
	all := whole()
	data := cut(all)
	for range 3 {
		if s, e := quote.Print(data); s != `[a b="c" d="e\]"][f g="h"]` || e != api.OK || quote.Check(data) != api.OK {
			t.Errorf("%q, %d", s, e)
		}
		if v, ok := quote.Get(data, "a", "d"); v != "e]" || !ok {
			t.Errorf("%q, %t", v, ok)
		}
		for _, x := range [][2]string{{"a", "\xff"}, {"a", "wrong"}, {"f", ""}, {"", ""}} {
			if v, ok := quote.Get(data, x[0], x[1]); v != "" || ok {
				t.Errorf("%q: %q, %t", x, v, ok)
			}
		}
		if !quote.Same(data, cut(whole())) || quote.Same(data, whole()[:2]) {
			t.Error("what lies behind was read")
		}
	}
	all[0].Params, all[1].Params = all[0].Params[:3], all[1].Params[:2]
	if !same(all, whole()) {
		t.Error(all)
	}
}

// R4, R7: an answer is its own, its spare room, too, and so is each list in it.
func TestAnswersAreTheirOwn(t *testing.T) {
	const s = `[a b="1" c="2" d="3"][e f="4"][g][h i="5" j="6" k="7" l="8" m="9"] behind`
	want := of(el("a", "b", "1", "c", "2", "d", "3"), el("e", "f", "4"), el("g"), el("h", "i", "5", "j", "6", "k", "7", "l", "8", "m", "9"))
	var kept [][]api.Element
	for range 3 {
		data, rest, e := quote.Parse(s)
		if !same(data, want) || rest != " behind" || e != api.OK {
			t.Fatalf("%q, %q, %d", tell(data), rest, e)
		}
		kept = append(kept, data)
	}
	var lists [][]api.Param
	for _, data := range kept {
		for _, e := range data {
			lists = append(lists, e.Params[:cap(e.Params)])
		}
	}
	for i, l := range lists {
		for j := range l {
			l[j].Name = strings.Repeat("x", i)
		}
	}
	for i, l := range lists {
		for _, p := range l {
			if p.Name != strings.Repeat("x", i) {
				t.Errorf("%d: %q", i, p)
			}
		}
	}
	for i, data := range kept {
		data = data[:cap(data)]
		for j := range data {
			data[j] = el(strings.Repeat("y", i))
		}
	}
	for i, data := range kept {
		for _, e := range data[:cap(data)] {
			if e.Id != strings.Repeat("y", i) {
				t.Errorf("%d: %q", i, e)
			}
		}
	}
	reads(t, s, want, " behind")
}
