package syslog_test

import (
	"math"
	"slices"
	"strings"
	"testing"

	"gong/api"
	"gong/syslog"
)

// oddBytes are so many bytes that no chance makes, but look so.
func oddBytes(long, from int) string {
	room := make([]byte, long)
	for i := range room {
		x := uint64(from+i+1) * 0x9E3779B97F4A7C15
		x = (x ^ x>>30) * 0xBF58476D1CE4E5B9
		x = (x ^ x>>27) * 0x94D049BB133111EB
		room[i] = byte(x ^ x>>31)
	}
	return string(room)
}

// P1, R5: every call ends at all arguments; what is refused answers nothing.
func TestAllArguments(t *testing.T) {
	const long = 1 << 16
	texts := []string{"", strings.Repeat("<", long), strings.Repeat(" ", long), strings.Repeat("- ", long), strings.Repeat("\xff", long), strings.Repeat("\x00", 1000), strings.Repeat("[a]", long), bom, bom + bom, strings.Repeat(bom, 1000)}
	for i := range 300 {
		texts = append(texts, oddBytes(i, 1000*i))
	}
	for _, s := range texts {
		for _, ahead := range []string{"", "<", "<0>1 ", "<0>1 - ", "<0>1 - - - - - ", "<0>1 - - - - - - ", "<0>1 - - - - - - " + bom} {
			parses(t, ahead+s)
		}
		for _, m := range []api.Log{{Host: s}, {App: s}, {Proc: s}, {Id: s}, {Text: s}, {Text: s, Bom: true}, {Data: []api.Element{el(s)}}, {Data: []api.Element{el("a", s, s)}}, {Data: []api.Element{el("a", "b", s)}}} {
			holds(t, m)
			if !syslog.Same(m, m) || syslog.Priority(m) != 0 {
				t.Errorf("%.300q", tell(m))
			}
		}
	}
	for _, n := range []int{math.MinInt, -1, math.MaxInt, math.MaxInt / 8} {
		for _, m := range []api.Log{{Facility: n}, {Level: n}, {Time: n}, {Facility: n, Level: n, Time: n}} {
			holds(t, m)
			syslog.Priority(m)
		}
	}
	for _, data := range [][]api.Element{make([]api.Element, 1), make([]api.Element, 5000), {{Id: "a", Params: make([]api.Param, 1)}}, {{Id: "a", Params: make([]api.Param, 5000)}}} {
		holds(t, api.Log{Data: data})
	}
}

// R1: a message that may not be is refused as that, be its text too long or not.
func TestFirstWrongThing(t *testing.T) {
	v := strings.Repeat("v", 1<<16)
	for _, x := range []struct {
		m    api.Log
		want api.Code
	}{
		{api.Log{Text: v}, api.ErrLong},
		{api.Log{Data: []api.Element{el("a", "b", v)}}, api.ErrLong},
		{api.Log{Data: []api.Element{el("a", "b", v+v)}}, api.ErrLong},
		{api.Log{Facility: 24, Text: v}, api.ErrLog},
		{api.Log{Level: -1, Text: v}, api.ErrLog},
		{api.Log{Time: 1, Text: v}, api.ErrLog},
		{api.Log{Id: "-", Text: v}, api.ErrLog},
		{api.Log{Data: []api.Element{el("a", "b", v), el("a")}}, api.ErrLog},
		{api.Log{Data: []api.Element{el("a", "b", v)}, Text: bom}, api.ErrLog},
		{api.Log{Data: []api.Element{el("a", "b", v)}, Bom: true, Text: "\xff"}, api.ErrLog},
		{api.Log{Bom: true, Text: v + "\xff"}, api.ErrLog},
	} {
		if s, e := syslog.Print(x.m); s != "" || e != x.want {
			t.Errorf("%.300q: %.90q, %d, and not %d", tell(x.m), s, e, x.want)
		}
	}
}

// R2: what the chapter does not refuse may be: the last time, names that look like
// other parts, texts with controls, bytes that are no UTF-8, if no mark is set;
// to Same and Priority, messages that may not be.
func TestWhatIsNotRefused(t *testing.T) {
	for _, m := range []api.Log{{Time: -1}, {Time: api.MaxTime - api.MaxTime%1000}, {Host: "--", App: "<0>1", Proc: "[a]", Id: "2003-10-11T22:14:15Z"}, {Text: "\xff\xfe\x00\n\r"}, {Text: " " + bom}, {Bom: true, Text: bom + "\x00"}, {Text: "<0>1 - - - - - -"}} {
		holds(t, m)
		if e := syslog.Check(m); e != api.OK {
			t.Errorf("%q: %d", tell(m), e)
		}
	}
	wrong := api.Log{Facility: -3, Level: 99, Time: 1, Host: "-", App: " ", Proc: "\xff", Data: []api.Element{el("")}, Bom: true, Text: "\xff"}
	if !syslog.Same(wrong, wrong) || syslog.Same(wrong, api.Log{}) || syslog.Priority(wrong) != 75 {
		t.Error(tell(wrong))
	}
}

// R3: no data are the same, be they nil or empty.
func TestNothing(t *testing.T) {
	for _, data := range [][]api.Element{nil, {}} {
		m := su()
		m.Data = data
		holds(t, m)
		if !syslog.Same(m, su()) || !syslog.Same(su(), m) {
			t.Error(data)
		}
	}
	a, b := su(), su()
	a.Data, b.Data = []api.Element{{Id: "a"}}, []api.Element{{Id: "a", Params: []api.Param{}}}
	if !syslog.Same(a, b) {
		t.Error("params")
	}
	holds(t, b)
}

// R6: numbers are written without a 0 ahead.
func TestNumbersAsText(t *testing.T) {
	for _, x := range []struct {
		facility, level int
		want            string
	}{{0, 0, "<0>1 - - - - - -"}, {0, 7, "<7>1 - - - - - -"}, {1, 2, "<10>1 - - - - - -"}, {12, 4, "<100>1 - - - - - -"}, {23, 7, "<191>1 - - - - - -"}} {
		if s, e := syslog.Print(api.Log{Facility: x.facility, Level: x.level, Time: -1}); s != x.want || e != api.OK {
			t.Errorf("%q, %d", s, e)
		}
	}
}

// R4, R7: what is handed in stays, its spare room and what lies behind a list's
// length, too.
func TestArgumentsStay(t *testing.T) {
	whole := func() []api.Element {
		return []api.Element{el("a", "b", "c", "\xff", "\xff"), el("a", "wrong", "\xff"), el("")}
	}
	all := whole()
	m := su()
	m.Data = all[:1]
	m.Data[0].Params = m.Data[0].Params[:1]
	other := m
	other.Data = []api.Element{el("a", "b", "c")}
	const want = `<34>1 2003-10-11T22:14:15.003Z mymachine.example.com su - ID47 [a b="c"]`
	for range 3 {
		if s, e := syslog.Print(m); s != want || e != api.OK || syslog.Check(m) != api.OK || !syslog.Same(m, other) || syslog.Priority(m) != 34 {
			t.Errorf("%q, %d", s, e)
		}
	}
	all[0].Params = all[0].Params[:2]
	for i, e := range whole() {
		if all[i].Id != e.Id || !slices.Equal(all[i].Params, e.Params) {
			t.Error(all[i])
		}
	}
}

// R4, R7: an answer is its own, its spare room, too.
func TestAnswersAreTheirOwn(t *testing.T) {
	const s = `<34>1 - a - - - [a b="1" c="2" d="3"][e f="4"][g] text`
	want := api.Log{Facility: 4, Level: 2, Time: -1, Host: "a", Data: []api.Element{el("a", "b", "1", "c", "2", "d", "3"), el("e", "f", "4"), el("g")}, Text: "text"}
	for range 3 {
		m, e := syslog.Parse(s)
		if !same(m, want) || e != api.OK {
			t.Fatalf("%q, %d", tell(m), e)
		}
		for _, e := range m.Data {
			l := e.Params[:cap(e.Params)]
			for i := range l {
				l[i] = api.Param{Name: "x", Value: "y"}
			}
		}
		l := m.Data[:cap(m.Data)]
		for i := range l {
			l[i] = el("z")
		}
		refuses(t, s[1:])
	}
	a, _ := syslog.Parse(s)
	b, _ := syslog.Parse(s)
	a.Data[0].Params[0].Value, a.Data[1].Id = "x", "x"
	if !same(b, want) {
		t.Error(tell(b))
	}
}
