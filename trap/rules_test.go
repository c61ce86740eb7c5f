package trap_test

import (
	"math"
	"slices"
	"strings"
	"testing"

	"gong/api"
	"gong/trap"
)

// P1, R5: every call ends at all arguments; what is refused answers nothing.
func TestAllArguments(t *testing.T) {
	texts := []string{"", "a", "1.3", strings.Repeat("1.", 1<<18), strings.Repeat("\x30\x80", 1<<17), strings.Repeat("\xff", 1<<20)}
	lists := [][]api.Bind{nil, {}, full().Binds, wrongBinds(), make([]api.Bind, 4097), {{Oid: texts[3], V: api.Value{Kind: math.MinInt, N: math.MaxInt, S: texts[4]}}}}
	for _, l := range lists {
		for _, n := range []int{0, 1, -1, 1 << 31, 1 << 32, math.MinInt, math.MaxInt} {
			for _, s := range texts {
				for _, x := range []api.Trap{{Community: s, Request: n, Uptime: n, Id: s, Binds: l}, {Community: "a", Request: n, Id: "1.3", Binds: l}, {Community: "a", Uptime: n, Id: "1.3", Binds: l}, {Community: "a", Id: s, Binds: l}} {
					both(t, x)
					if !trap.Same(x, x) {
						t.Errorf("%.300v", tell(x))
					}
				}
			}
		}
	}
	nested := ""
	for range 300 {
		nested = element(48, nested)
	}
	v, c, _, _ := pieces()
	for _, s := range append(texts, nested, element(48, v+c+nested), element(48, v+c+element(167, nested)), message("a", unit(167, 0, 0, 0, nested)), element(48, strings.Repeat("\x05\x00", 5000)), element(48, v+c+element(167, strings.Repeat(v, 5000))), strings.Repeat("\x00", 65535), strings.Repeat("\x30", 65535), strings.Repeat("\x00", 65536), "\x30\x84\xff\xff\xff\xff", "\x30\x84\x7f\xff\xff\xff"+v+c, message("a", "\xa7\x84\xff\xff\xff\xff")) {
		isNot(t, s)
		isRefused(t, s, make([]string, 1<<16), api.ErrTrap)
	}
}

// R1: what is wrong in several ways is refused by what is named first: ErrTrap, then
// ErrNone, then ErrLong, and of a text ErrTrap, then ErrWho.
func TestFirstWrongThing(t *testing.T) {
	long := slices.Repeat([]api.Bind{{Oid: "1.3", V: api.Value{Kind: api.VOctets, S: strings.Repeat("o", 65535)}}}, 2)
	for _, y := range []struct {
		x              api.Trap
		encode, answer api.Code
	}{
		{api.Trap{}, api.ErrTrap, api.ErrTrap},
		{api.Trap{Inform: true}, api.ErrTrap, api.ErrTrap},
		{api.Trap{Id: "1.3", Binds: long}, api.ErrTrap, api.ErrTrap},
		{api.Trap{Community: "a", Binds: long}, api.ErrTrap, api.ErrTrap},
		{api.Trap{Community: "a", Id: "1.3", Binds: append(slices.Clone(long), api.Bind{})}, api.ErrTrap, api.ErrTrap},
		{api.Trap{Community: "a", Id: "1.3", Uptime: -1, Inform: true, Binds: long}, api.ErrTrap, api.ErrTrap},
		{api.Trap{Community: "a", Id: "1.3", Request: 1 << 31, Inform: true, Binds: long}, api.ErrTrap, api.ErrTrap},
		{api.Trap{Community: "a", Id: "1.3", Binds: long}, api.ErrLong, api.ErrNone},
		{api.Trap{Community: "a", Id: "1.3", Inform: true, Binds: long}, api.ErrLong, api.ErrLong},
		{api.Trap{Community: "a", Id: "1.3"}, api.OK, api.ErrNone},
		{api.Trap{Community: "a", Id: "1.3", Inform: true}, api.OK, api.OK},
	} {
		s, e := trap.Encode(y.x)
		answer, asked := trap.Answer(y.x)
		if e != y.encode || asked != y.answer || (s == "") != (e != api.OK) || (answer == "") != (asked != api.OK) {
			t.Errorf("%.300v: %d, %d, and not %d, %d", tell(y.x), e, asked, y.encode, y.answer)
		}
	}
	isRefused(t, known[0].s, nil, api.ErrWho)
	isRefused(t, known[0].s+"\x00", nil, api.ErrTrap)
	isRefused(t, known[0].s[:9], nil, api.ErrTrap)
}

// R2: what the chapter does not refuse may be: a community that is no text, an Id that
// tells of no trap, a trap's own two variables once more, one variable twice, an answer
// of Request 0; to Same, traps that may not be.
func TestWhatIsNotRefused(t *testing.T) {
	null := api.Value{Kind: api.VNull}
	for _, x := range []api.Trap{
		{Community: "\xff\x00\"\\", Id: "0.0"}, {Community: "-", Id: "2.4294967215", Request: math.MinInt32, Uptime: math.MaxUint32},
		with(api.Bind{Oid: "1.3.6.1.2.1.1.3.0", V: api.Value{Kind: api.VTicks}}, api.Bind{Oid: "1.3.6.1.6.3.1.1.4.1.0", V: api.Value{Kind: api.VOid, S: "0.0"}}), with(api.Bind{Oid: "1.3", V: null}, api.Bind{Oid: "1.3", V: null}),
		with(api.Bind{Oid: "1.3.6.1.2.1.1.3.0", V: null}), with(api.Bind{Oid: "1.3", V: api.Value{Kind: api.VOpaque, S: "\x1f"}}),
	} {
		both(t, x)
		if e := trap.Check(x); e != api.OK {
			t.Errorf("%v: %d", tell(x), e)
		}
	}
	wrong := api.Trap{Request: 1 << 40, Uptime: -5, Id: "x", Binds: wrongBinds()}
	other := wrong
	other.Binds = wrongBinds()
	if !trap.Same(wrong, other) {
		t.Error("not the same")
	}
}

// R3: no binds are the same, be they nil or empty, and so is nobody who is known.
func TestNoBinds(t *testing.T) {
	x, y := cold(), with([]api.Bind{}...)
	y.Binds = []api.Bind{}
	a, _ := trap.Encode(x)
	b, e := trap.Encode(y)
	if a != b || e != api.OK || trap.Check(y) != api.OK {
		t.Errorf("%q, %q, %d", a, b, e)
	}
	a, _ = trap.Answer(asking(x))
	b, e = trap.Answer(asking(y))
	if a != b || e != api.OK {
		t.Errorf("%q, %q, %d", a, b, e)
	}
	if !trap.Same(x, y) || !trap.Same(y, x) {
		t.Error("not the same")
	}
	isRefused(t, a, []string{}, api.ErrTrap)
	isRefused(t, known[0].s, []string{}, api.ErrWho)
	isRefused(t, known[0].s, nil, api.ErrWho)
}

// R4, R7: what is handed in stays, its spare room and what lies behind a list's
// length, too; an answer is its own, its spare room, too.
func TestAnswersAreTheirOwn(t *testing.T) {
	room := append(full().Binds, api.Bind{Oid: "1.3.6.1", V: api.Value{Kind: api.VNull}}, api.Bind{Oid: "wrong"}, api.Bind{})
	names := []string{"public", "a", "public", "b"}
	most := len(room) - 3
	all := slices.Clone(room)
	x := full()
	x.Binds = room[:most]
	want, asked := plainMessage(x)
	var kept [][]api.Bind
	for range 3 {
		s, e := trap.Encode(x)
		answer, f := trap.Answer(x)
		if s != want || answer != asked || e != api.OK || f != api.OK || trap.Check(x) != api.OK || !trap.Same(x, x) {
			t.Fatalf("%.60q, %d, %.60q, %d", s, e, answer, f)
		}
		isRefused(t, s, names[:2:3], api.ErrWho)
		for _, s := range []string{want, known[3].s} {
			y, e := trap.Decode(s, []string{x.Community, "public"})
			if e != api.OK {
				t.Fatal(e)
			}
			kept = append(kept, y.Binds)
		}
	}
	for i, l := range kept {
		if !slices.Equal(l, kept[i%2]) || len(l) == 0 {
			t.Fatalf("%d: %v", i, l)
		}
	}
	for i, l := range kept {
		l = l[:cap(l)]
		for j := range l {
			l[j].Oid = strings.Repeat("x", i+1)
		}
	}
	for i, l := range kept {
		for _, b := range l[:cap(l)] {
			if b.Oid != strings.Repeat("x", i+1) {
				t.Errorf("%d: %v", i, b)
			}
		}
	}
	if !slices.Equal(room, all) || !slices.Equal(names, []string{"public", "a", "public", "b"}) {
		t.Error(room, names)
	}
	if s, e := trap.Encode(x); s != want || e != api.OK {
		t.Errorf("%.60q, %d", s, e)
	}
}

// R6: the numbers of an Id that is read stand without a 0 ahead, and one with such
// may not be.
func TestNumbersAsText(t *testing.T) {
	s := message("a", unit(167, 0, 0, 0, "\x30\x0d\x06\x08\x2b\x06\x01\x02\x01\x01\x03\x00\x43\x01\x00"+"\x30\x13\x06\x0a\x2b\x06\x01\x06\x03\x01\x01\x04\x01\x00\x06\x05\x00\x00\x0a\x81\x00"))
	isRead(t, s, api.Trap{Community: "a", Id: "0.0.0.10.128"})
	for _, id := range []string{"0.0.0.010.128", "00.0.0.10.128", "0.0.00.10.128", "0.0.0.10.0128"} {
		if e := trap.Check(api.Trap{Community: "a", Id: id}); e != api.ErrTrap {
			t.Errorf("%q: %d", id, e)
		}
	}
}
