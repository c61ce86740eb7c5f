package pdu_test

import (
	"math"
	"slices"
	"strings"
	"testing"

	"gong/api"
	"gong/ber"
	"gong/oid"
	"gong/pdu"
	"gong/value"
)

// plainCheck is the chapter's words for what may be.
func plainCheck(u pdu.Unit) bool {
	if u.Tag != 162 && u.Tag != 166 && u.Tag != 167 || len(u.Binds) > 4096 {
		return false
	}
	if u.Request < -2147483648 || u.Request > 2147483647 || u.Status < 0 || u.Status > 2147483647 || u.Index < 0 || u.Index > 2147483647 {
		return false
	}
	for _, b := range u.Binds {
		_, e := oid.Arcs(b.Oid)
		if e != api.OK || value.Check(b.V) != api.OK {
			return false
		}
	}
	return true
}

// element is that of a tag and a body, as ber writes it.
func element(tag int, body string) string {
	s, e := ber.Wrap(tag, body)
	if e != api.OK {
		panic(e)
	}
	return s
}

// number is the element of n, its body as few bytes as have it in two's complement.
func number(n int) string {
	long := 1
	for n < -1<<(8*long-1) || n >= 1<<(8*long-1) {
		long++
	}
	body := ""
	for i := range long {
		body = string([]byte{byte(n >> (8 * i))}) + body
	}
	return element(2, body)
}

// bind is the element of b, which may be.
func bind(b api.Bind) string {
	name, _ := oid.Encode(b.Oid)
	v, _ := value.Encode(b.V)
	return element(48, element(6, name)+v)
}

// plainBody is the chapter's words for the body of a unit that may be.
func plainBody(u pdu.Unit) string {
	var binds strings.Builder
	for _, b := range u.Binds {
		binds.WriteString(bind(b))
	}
	return number(u.Request) + number(u.Status) + number(u.Index) + element(48, binds.String())
}

func same(u, w pdu.Unit) bool {
	return u.Tag == w.Tag && u.Request == w.Request && u.Status == w.Status && u.Index == w.Index && slices.Equal(u.Binds, w.Binds)
}

func isNone(u pdu.Unit) bool {
	return u.Tag == 0 && u.Request == 0 && u.Status == 0 && u.Index == 0 && len(u.Binds) == 0
}

// tell is enough of u to know it again.
func tell(u pdu.Unit) []any {
	return []any{u.Tag, u.Request, u.Status, u.Index, len(u.Binds), u.Binds[:min(2, len(u.Binds))]}
}

// holds holds u to the chapter's words, there and back.
func holds(t *testing.T, u pdu.Unit) {
	t.Helper()
	want, code := "", api.ErrPdu
	if plainCheck(u) {
		want, code = element(u.Tag, plainBody(u)), api.OK
	}
	if e := pdu.Check(u); e != code {
		t.Errorf("Check(%.300v) = %d", tell(u), e)
	}
	if len(want) > 65536 {
		want, code = "", api.ErrLong
	}
	s, e := pdu.Encode(u)
	if s != want || e != code {
		t.Errorf("Encode(%.300v) = %.60q (%d), %d, and not %.60q (%d), %d", tell(u), s, len(s), e, want, len(want), code)
	}
	if code != api.ErrPdu {
		isRead(t, ber.Part{Tag: u.Tag, Body: plainBody(u)}, u)
	}
}

// isRead holds p to being the element of u.
func isRead(t *testing.T, p ber.Part, u pdu.Unit) {
	t.Helper()
	if back, e := pdu.Decode(p); !same(back, u) || e != api.OK {
		t.Errorf("Decode(%d, %.60q) = %.300v, %d", p.Tag, p.Body, tell(back), e)
	}
}

// isNot holds p to being no unit's element.
func isNot(t *testing.T, p ber.Part) {
	t.Helper()
	if u, e := pdu.Decode(p); !isNone(u) || e != api.ErrPdu {
		t.Errorf("Decode(%d, %.60q) = %.300v, %d", p.Tag, p.Body, tell(u), e)
	}
}

// one has a bind of each kind of value.
func one() pdu.Unit {
	return pdu.Unit{Tag: pdu.Answer, Request: -300, Status: 5, Index: 128, Binds: []api.Bind{
		{Oid: "1.3.6.1.2.1.1.3.0", V: api.Value{Kind: api.VTicks, N: 300}},
		{Oid: "1.3.6.1.6.3.1.1.4.1.0", V: api.Value{Kind: api.VOid, S: "1.3.6.1.6.3.1.1.5.1"}},
		{Oid: "1.3.6.1.2.1.2.2.1.1.4294967295", V: api.Value{Kind: api.VInt, N: -1}},
		{Oid: "0.0", V: api.Value{Kind: api.VNull}},
		{Oid: "2.999", V: api.Value{Kind: api.VOctets, S: "eth\x00\xff"}},
		{Oid: "2.999.3", V: api.Value{Kind: api.VOctets, S: strings.Repeat("o", 200)}},
		{Oid: "1.3", V: api.Value{Kind: api.VAddress, S: "\x7f\x00\x00\x01"}},
		{Oid: "1.3.6", V: api.Value{Kind: api.VCounter, N: math.MaxUint32}},
		{Oid: "1.3.6", V: api.Value{Kind: api.VGauge, N: 0}},
		{Oid: "1.3.6.1", V: api.Value{Kind: api.VOpaque, S: "\x9f\x78\x04abcd"}},
		{Oid: "1.3.6.1", V: value.Big(math.MaxUint64)},
	}}
}

// known are units, and the bytes that they are known to have.
var known = []struct {
	u pdu.Unit
	s string
}{
	{pdu.Unit{Tag: pdu.Trap, Request: 1}, "\xa7\x0b\x02\x01\x01\x02\x01\x00\x02\x01\x00\x30\x00"},
	{pdu.Unit{Tag: pdu.Inform}, "\xa6\x0b\x02\x01\x00\x02\x01\x00\x02\x01\x00\x30\x00"},
	{pdu.Unit{Tag: pdu.Answer, Request: 1, Status: 2, Index: 3}, "\xa2\x0b\x02\x01\x01\x02\x01\x02\x02\x01\x03\x30\x00"},
	{pdu.Unit{Tag: pdu.Trap, Request: -2147483648, Status: 2147483647, Index: 2147483647}, "\xa7\x14\x02\x04\x80\x00\x00\x00\x02\x04\x7f\xff\xff\xff\x02\x04\x7f\xff\xff\xff\x30\x00"},
	{pdu.Unit{Tag: pdu.Trap, Request: 2147483647, Status: 128, Index: 255}, "\xa7\x10\x02\x04\x7f\xff\xff\xff\x02\x02\x00\x80\x02\x02\x00\xff\x30\x00"},
	{pdu.Unit{Tag: pdu.Trap, Request: 1, Binds: []api.Bind{{Oid: "1.3", V: api.Value{Kind: api.VNull}}}}, "\xa7\x12\x02\x01\x01\x02\x01\x00\x02\x01\x00\x30\x07\x30\x05\x06\x01\x2b\x05\x00"},
	{pdu.Unit{Tag: pdu.Trap, Request: 7, Binds: []api.Bind{
		{Oid: "1.3.6.1.2.1.1.3.0", V: api.Value{Kind: api.VTicks, N: 300}},
		{Oid: "1.3.6.1.6.3.1.1.4.1.0", V: api.Value{Kind: api.VOid, S: "1.3.6.1.6.3.1.1.5.1"}},
	}}, "\xa7\x34\x02\x01\x07\x02\x01\x00\x02\x01\x00\x30\x29" +
		"\x30\x0e\x06\x08\x2b\x06\x01\x02\x01\x01\x03\x00\x43\x02\x01\x2c" +
		"\x30\x17\x06\x0a\x2b\x06\x01\x06\x03\x01\x01\x04\x01\x00\x06\x09\x2b\x06\x01\x06\x03\x01\x01\x05\x01"},
}

// 8.1
func TestKnown(t *testing.T) {
	if pdu.Answer != 162 || pdu.Inform != 166 || pdu.Trap != 167 {
		t.Error(pdu.Answer, pdu.Inform, pdu.Trap)
	}
	for _, x := range known {
		if e := pdu.Check(x.u); e != api.OK {
			t.Errorf("%v: %d", x.u, e)
		}
		if s, e := pdu.Encode(x.u); s != x.s || e != api.OK {
			t.Errorf("%v: %q, %d", x.u, s, e)
		}
		p, rest, _ := ber.Next(x.s)
		isRead(t, p, x.u)
		if rest != "" {
			t.Errorf("%q", rest)
		}
		holds(t, x.u)
	}
	holds(t, one())
}

// edges are numbers at and beside each edge that a unit has, and those far off.
func edges() []int {
	all := []int{5, 300, -300}
	for bits := range 63 {
		for d := -1; d <= 1; d++ {
			all = append(all, 1<<bits+d, -1<<bits+d)
		}
	}
	return append(all, math.MaxInt, math.MinInt, 162, 166, 167, 162-256, 166+256, 167+1<<32)
}

// 8.1: each number of a unit, at its edges.
func TestNumbers(t *testing.T) {
	for _, n := range edges() {
		for _, tag := range []int{162, 166, 167} {
			holds(t, pdu.Unit{Tag: tag, Request: n})
			holds(t, pdu.Unit{Tag: tag, Status: n})
			holds(t, pdu.Unit{Tag: tag, Index: n})
			holds(t, pdu.Unit{Tag: tag, Request: n, Status: n, Index: n, Binds: one().Binds})
		}
		holds(t, pdu.Unit{Tag: n})
	}
	for tag := -300; tag < 600; tag++ {
		holds(t, pdu.Unit{Tag: tag, Request: 1, Binds: one().Binds})
	}
	for _, x := range []struct {
		u    pdu.Unit
		want api.Code
	}{
		{pdu.Unit{}, api.ErrPdu}, {pdu.Unit{Tag: 160}, api.ErrPdu}, {pdu.Unit{Tag: 164}, api.ErrPdu}, {pdu.Unit{Tag: 168}, api.ErrPdu},
		{pdu.Unit{Tag: 167, Request: -2147483648}, api.OK}, {pdu.Unit{Tag: 167, Request: -2147483649}, api.ErrPdu}, {pdu.Unit{Tag: 167, Request: 2147483647}, api.OK}, {pdu.Unit{Tag: 167, Request: 2147483648}, api.ErrPdu},
		{pdu.Unit{Tag: 167, Status: -1}, api.ErrPdu}, {pdu.Unit{Tag: 167, Status: 2147483647}, api.OK}, {pdu.Unit{Tag: 167, Status: 2147483648}, api.ErrPdu},
		{pdu.Unit{Tag: 167, Index: -1}, api.ErrPdu}, {pdu.Unit{Tag: 167, Index: 2147483647}, api.OK}, {pdu.Unit{Tag: 167, Index: 2147483648}, api.ErrPdu},
	} {
		if e := pdu.Check(x.u); e != x.want {
			t.Errorf("%v: %d", x.u, e)
		}
	}
}

// wrongBinds may not be.
func wrongBinds() []api.Bind {
	none := api.Value{Kind: api.VNull}
	return []api.Bind{
		{}, {V: none}, {Oid: "1", V: none}, {Oid: "1.40", V: none}, {Oid: "3.1", V: none}, {Oid: "1.03", V: none}, {Oid: "1.3.", V: none}, {Oid: ".1.3", V: none}, {Oid: "1.3.4294967296", V: none}, {Oid: "\x2b", V: none}, {Oid: "1." + strings.Repeat("1.", 127) + "1", V: none},
		{Oid: "1.3"}, {Oid: "1.3", V: api.Value{Kind: 48}}, {Oid: "1.3", V: api.Value{Kind: 2, N: 2147483648}}, {Oid: "1.3", V: api.Value{Kind: 2, S: "a"}}, {Oid: "1.3", V: api.Value{Kind: 4, S: strings.Repeat("o", 65536)}}, {Oid: "1.3", V: api.Value{Kind: 5, N: 1}}, {Oid: "1.3", V: api.Value{Kind: 6, S: "1"}}, {Oid: "1.3", V: api.Value{Kind: 64, S: "abc"}}, {Oid: "1.3", V: api.Value{Kind: 65, N: -1}}, {Oid: "1.3", V: api.Value{Kind: 67, N: 4294967296}},
	}
}

// 8.1: each bind must be one that may be, wherever it stands.
func TestWrongBinds(t *testing.T) {
	for _, b := range wrongBinds() {
		for i := range len(one().Binds) + 1 {
			u := one()
			u.Binds = slices.Insert(u.Binds, i, b)
			if pdu.Check(u) != api.ErrPdu {
				t.Errorf("%.100v at %d", b, i)
			}
			holds(t, u)
		}
	}
	for _, n := range []string{"1.3", "0.39", "2.4294967215", "1." + strings.Repeat("1.", 126) + "1", "2.4294967215" + strings.Repeat(".4294967295", 126)} {
		holds(t, pdu.Unit{Tag: pdu.Trap, Binds: []api.Bind{{Oid: n, V: api.Value{Kind: api.VOid, S: n}}}})
	}
}

// 8.1: how many binds there may be.
func TestManyBinds(t *testing.T) {
	for _, long := range []int{1, 2, 17, 18, 36, 4095, 4096, 4097, 5000} {
		u := pdu.Unit{Tag: pdu.Trap, Request: long, Binds: slices.Repeat([]api.Bind{{Oid: "1.3", V: api.Value{Kind: api.VNull}}}, long)}
		holds(t, u)
		if e := pdu.Check(u); (e == api.OK) != (long <= api.MaxItems) {
			t.Errorf("%d: %d", long, e)
		}
	}
}

// 8.1: how many bytes the element may have, be they in one bind or in many.
func TestLongElements(t *testing.T) {
	found := map[int]bool{}
	for long := 65480; long <= 65535; long++ {
		u := pdu.Unit{Tag: pdu.Trap, Binds: []api.Bind{{Oid: "1.3", V: api.Value{Kind: api.VOctets, S: strings.Repeat("o", long)}}}}
		found[len(element(u.Tag, plainBody(u)))] = true
		holds(t, u)
		u.Request = 300
		holds(t, u)
	}
	for long := range 16 {
		u := pdu.Unit{Tag: pdu.Inform, Binds: slices.Repeat([]api.Bind{{Oid: "1.3", V: api.Value{Kind: api.VOctets, S: "ninebytes"}}}, 4094)}
		u.Binds = append(u.Binds, api.Bind{Oid: "1.3", V: api.Value{Kind: api.VOpaque, S: strings.Repeat("o", long)}})
		found[len(element(u.Tag, plainBody(u)))] = true
		holds(t, u)
		u.Binds[4093].V.S += "!"
		holds(t, u)
	}
	for long := 65530; long < 65540; long++ {
		if !found[long] {
			t.Errorf("none has %d bytes", long)
		}
	}
}

// 8.1: units that are far too long are refused as such, if all else is right.
func TestFarTooLong(t *testing.T) {
	u := pdu.Unit{Tag: pdu.Trap, Binds: slices.Repeat([]api.Bind{{Oid: "1.3", V: api.Value{Kind: api.VOctets, S: strings.Repeat("o", 65535)}}}, 4096)}
	if e := pdu.Check(u); e != api.OK {
		t.Error(e)
	}
	if s, e := pdu.Encode(u); s != "" || e != api.ErrLong {
		t.Errorf("%.60q, %d", s, e)
	}
	u.Binds[4095].Oid = "1"
	if s, e := pdu.Encode(u); s != "" || e != api.ErrPdu {
		t.Errorf("%.60q, %d", s, e)
	}
}
