package pdu_test

import (
	"math"
	"slices"
	"strings"
	"testing"

	"gong/api"
	"gong/ber"
	"gong/pdu"
	"gong/value"
)

// P1, R5: every call ends at all arguments; what is refused answers nothing.
func TestAllArguments(t *testing.T) {
	long := strings.Repeat("\x30\x80", 1<<16)
	lists := [][]api.Bind{nil, {}, one().Binds, wrongBinds(), make([]api.Bind, 4097), {{Oid: long}}, {{Oid: strings.Repeat("1.", 1<<18), V: api.Value{Kind: math.MinInt, N: math.MaxInt, S: long}}}}
	for _, l := range lists {
		for _, n := range []int{0, 1, -1, 167, 1 << 31, math.MinInt, math.MaxInt} {
			for _, u := range []pdu.Unit{{Tag: n, Request: n, Status: n, Index: n, Binds: l}, {Tag: 167, Request: n, Binds: l}, {Tag: 166, Status: n, Binds: l}, {Tag: 162, Index: n, Binds: l}} {
				holds(t, u)
				if !pdu.Same(u, u) {
					t.Errorf("%.300v", tell(u))
				}
			}
		}
		for _, root := range []string{"", "1.3", "1", long, strings.Repeat("1.", 1<<18)} {
			for _, b := range pdu.Find(l, root) {
				if root != "1.3" || !strings.HasPrefix(b.Oid, "1.3") {
					t.Errorf("%.60q: %.300v", root, b)
				}
			}
		}
	}
	nested := ""
	for range 1000 {
		nested = element(48, nested)
	}
	head := number(1) + number(0) + number(0)
	for _, body := range []string{long, nested, head + nested, head + long, strings.Repeat("\x05\x00", 1<<18), strings.Repeat("\x00", 1<<20), strings.Repeat("\xff", 1<<20), strings.Repeat(number(0), 5000), "\x30\x84\xff\xff\xff\xff", head + "\x30\x84\x7f\xff\xff\xff"} {
		for _, tag := range []int{162, 166, 167, 48, 0, -1, math.MinInt, math.MaxInt} {
			isNot(t, ber.Part{Tag: tag, Body: body})
		}
	}
}

// R1: what is wrong in several ways is refused alike; ErrPdu comes ahead of ErrLong,
// which is looked at when all else is right.
func TestFirstWrongThing(t *testing.T) {
	full := api.Bind{Oid: "1.3", V: api.Value{Kind: api.VOctets, S: strings.Repeat("o", 65535)}}
	for _, b := range wrongBinds() {
		for _, l := range [][]api.Bind{{full, b}, {b, full}, {full, full, b}, slices.Insert(slices.Repeat([]api.Bind{full}, 4096), 4095, b)} {
			holds(t, pdu.Unit{Tag: 167, Binds: l})
		}
	}
	for _, u := range []pdu.Unit{{Tag: 168}, {Tag: 167, Request: 1 << 31}, {Tag: 167, Status: -1}, {Tag: 167, Index: -1}} {
		u.Binds = []api.Bind{full, full}
		holds(t, u)
		if s, e := pdu.Encode(u); s != "" || e != api.ErrPdu {
			t.Errorf("%v: %.60q, %d", tell(u), s, e)
		}
	}
	if s, e := pdu.Encode(pdu.Unit{Tag: 167, Binds: []api.Bind{full, full}}); s != "" || e != api.ErrLong {
		t.Errorf("%.60q, %d", s, e)
	}
}

// R2: what the chapter does not refuse may be: a variable twice, one without a
// variable's place, an answer with an error and binds, a trap with a Status; to
// Same and Find, units and binds that may not be; to Decode, a unit that may be
// whose element is longer than Encode makes one.
func TestWhatIsNotRefused(t *testing.T) {
	b := api.Bind{Oid: "0.0", V: api.Value{Kind: api.VNull}}
	holds(t, pdu.Unit{Tag: pdu.Answer, Status: 99, Index: 5, Binds: []api.Bind{b, b}})
	holds(t, pdu.Unit{Tag: pdu.Trap, Request: -1, Status: 1, Index: 7})
	holds(t, pdu.Unit{Tag: pdu.Inform, Binds: []api.Bind{{Oid: "1.3", V: api.Value{Kind: api.VOpaque, S: "\x1f"}}, {Oid: "1.3", V: value.Big(1 << 63)}}})
	full := api.Bind{Oid: "1.3", V: api.Value{Kind: api.VOctets, S: strings.Repeat("o", 65535)}}
	for _, long := range []int{1, 2, 5, 200} {
		u := pdu.Unit{Tag: pdu.Trap, Binds: slices.Repeat([]api.Bind{full}, long)}
		isRead(t, ber.Part{Tag: pdu.Trap, Body: plainBody(u)}, u)
	}
	wrong := pdu.Unit{Tag: 5, Request: 1 << 40, Binds: wrongBinds()}
	if !pdu.Same(wrong, pdu.Unit{Tag: 5, Request: 1 << 40, Binds: wrongBinds()}) {
		t.Error("not the same")
	}
	if l := pdu.Find([]api.Bind{{Oid: "1.3.6"}}, "1.3"); !slices.Equal(l, []api.Bind{{Oid: "1.3.6"}}) {
		t.Error(l)
	}
}

// R3: no binds are the same, be they nil or empty.
func TestNoBinds(t *testing.T) {
	u, w := pdu.Unit{Tag: pdu.Trap, Request: 1}, pdu.Unit{Tag: pdu.Trap, Request: 1, Binds: []api.Bind{}}
	a, _ := pdu.Encode(u)
	b, e := pdu.Encode(w)
	if a != b || e != api.OK || pdu.Check(w) != api.OK {
		t.Errorf("%q, %q, %d", a, b, e)
	}
	if !pdu.Same(u, w) || !pdu.Same(w, u) {
		t.Error("not the same")
	}
	if len(pdu.Find(nil, "1.3"))+len(pdu.Find([]api.Bind{}, "1.3")) != 0 {
		t.Error("found")
	}
}

// R4, R7: what is handed in stays, its spare room and what lies behind a list's
// length too; an answer is its own, its spare room too.
func TestAnswersAreTheirOwn(t *testing.T) {
	room := append(one().Binds, api.Bind{Oid: "1.3.6.1", V: api.Value{Kind: api.VNull}}, api.Bind{Oid: "wrong"})
	most := len(room) - 2
	all := slices.Clone(room)
	u := pdu.Unit{Tag: pdu.Trap, Request: 7, Binds: room[:most]}
	want := element(pdu.Trap, plainBody(u))
	var kept [][]api.Bind
	for range 3 {
		s, e := pdu.Encode(u)
		if s != want || e != api.OK || pdu.Check(u) != api.OK || !pdu.Same(u, u) {
			t.Fatalf("%.60q, %d", s, e)
		}
		p, _, _ := ber.Next(s)
		w, _ := pdu.Decode(p)
		x, _ := pdu.Decode(p)
		kept = append(kept, w.Binds, x.Binds, pdu.Find(room[:most], "1.3"), pdu.Find(room[:most], "1.3"), pdu.Find(room[:most], "0.0"))
	}
	for i, l := range kept {
		if w := kept[i%5]; !slices.Equal(l, w) {
			t.Fatalf("%d: %v", i, l)
		}
	}
	if len(kept[2]) != 8 || len(kept[4]) != 1 || !slices.Equal(kept[0], all[:most]) {
		t.Fatal(kept[0], kept[2], kept[4])
	}
	for i, l := range kept {
		l = l[:cap(l)]
		for j := range l {
			l[j].Oid = strings.Repeat("x", i+1)
		}
	}
	for i, l := range kept {
		for _, b := range l[:cap(l)] {
			if b.Oid != strings.Repeat("x", i+1) {
				t.Errorf("%d: %v", i, b)
			}
		}
	}
	if !slices.Equal(room, all) {
		t.Error(room)
	}
}

// R6: the numbers of identifiers that are read stand without a 0 ahead.
func TestNumbersAsText(t *testing.T) {
	body := number(0) + number(0) + number(0) + element(48, element(48, "\x06\x05\x00\x00\x0a\x81\x00\x06\x02\x2b\x00"))
	isRead(t, ber.Part{Tag: 162, Body: body}, pdu.Unit{Tag: 162, Binds: []api.Bind{{Oid: "0.0.0.10.128", V: api.Value{Kind: 6, S: "1.3.0"}}}})
}
