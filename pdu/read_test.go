package pdu_test

import (
	"slices"
	"strings"
	"testing"

	"gong/api"
	"gong/ber"
	"gong/oid"
	"gong/pdu"
	"gong/value"
)

// guess is the unit that p would be the element of, if it is one's: what can't be
// read is left out, or as may be.
func guess(p ber.Part) pdu.Unit {
	u := pdu.Unit{Tag: p.Tag}
	parts, _ := ber.Parts(p.Body)
	if len(parts) < 4 {
		return u
	}
	u.Request, _ = ber.Number(parts[0].Body)
	u.Status, _ = ber.Number(parts[1].Body)
	u.Index, _ = ber.Number(parts[2].Body)
	binds, _ := ber.Parts(parts[3].Body)
	for _, b := range binds {
		two, _ := ber.Parts(b.Body)
		if len(two) < 2 {
			return u
		}
		name, _ := oid.Decode(two[0].Body)
		v, _ := value.Decode(two[1])
		u.Binds = append(u.Binds, api.Bind{Oid: name, V: v})
	}
	return u
}

// holdsPart holds p to the chapter's words: it is a unit's element, if there is one
// that may be, whose element has the same shortest form.
func holdsPart(t *testing.T, p ber.Part) {
	t.Helper()
	u := guess(p)
	whole, _ := ber.Wrap(p.Tag, p.Body)
	short, e := ber.Canon(whole)
	if e == api.OK && plainCheck(u) && short == element(u.Tag, plainBody(u)) {
		isRead(t, p, u)
	} else {
		isNot(t, p)
	}
}

// 8.1: parts that are no unit's element.
func TestWrongParts(t *testing.T) {
	n, none, null := number(0), element(48, ""), element(5, "")
	b := bind(api.Bind{Oid: "1.3", V: api.Value{Kind: api.VNull}})
	name := element(6, "\x2b")
	isRead(t, ber.Part{Tag: 167, Body: n + n + n + element(48, b+b)}, pdu.Unit{Tag: 167, Binds: slices.Repeat([]api.Bind{{Oid: "1.3", V: api.Value{Kind: 5}}}, 2)})
	for _, body := range []string{
		"", n, n + n, n + n + n, n + n + none, n + n + n + n, n + n + n + n + none, n + n + n + none + none, n + n + n + none + n, none + n + n + n, n + none + n + n, n + n + n + null,
		n + n + n + none + "\x00", n + n + n + none[:1], n + n + n[:2] + none, "\x00" + n + n + n + none,
		element(65, "\x00") + n + n + none, n + element(10, "\x00") + none, n + n + element(4, "\x00") + none, element(34, "\x02\x01\x00") + n + n + none, n + element(66, "\x00") + n + none, n + n + element(67, "\x00") + none,
		element(2, "") + n + n + none, n + element(2, "\x00\x00") + n + none, n + n + element(2, "\x00\x05") + none, element(2, "\xff\xff") + n + n + none, element(2, "\xff\x80\x00\x00\x00") + n + n + none, n + element(2, "\x00\x80\x00\x00") + "!" + n + none,
		element(2, "\x00\x80\x00\x00\x00") + n + n + none, element(2, "\xff\x7f\xff\xff\xff") + n + n + none, n + element(2, "\x00\x80\x00\x00\x00") + n + none, n + n + element(2, "\x00\x80\x00\x00\x00") + none, n + element(2, "\xff") + n + none, n + n + element(2, "\xff") + none, element(2, "123456789") + n + n + none,
		n + n + n + element(49, ""), n + n + n + element(16, ""), n + n + n + element(4, b), n + n + n + element(48, b[:len(b)-1]), n + n + n + element(48, b+"\x00"), n + n + n + element(48, b) + b, n + n + n + b,
		n + n + n + element(48, name), n + n + n + element(48, name+null), n + n + n + element(48, none), n + n + n + element(48, element(48, name)), n + n + n + element(48, element(48, name+null+null)), n + n + n + element(48, element(48, null+name)), n + n + n + element(48, element(48, element(48, name+null))),
		n + n + n + element(48, element(49, name+null)), n + n + n + element(48, element(16, name+null)), n + n + n + element(48, element(4, name+null)),
		n + n + n + element(48, element(48, element(4, "\x2b")+null)), n + n + n + element(48, element(48, element(38, "\x2b")+null)), n + n + n + element(48, element(48, element(6, "")+null)), n + n + n + element(48, element(48, element(6, "\x80\x01")+null)), n + n + n + element(48, element(48, element(6, "\x2b\x86")+null)), n + n + n + element(48, element(48, element(6, "1.3")+element(5, "!"))),
		n + n + n + element(48, element(48, name+element(5, "\x00"))), n + n + n + element(48, element(48, name+element(2, ""))), n + n + n + element(48, element(48, name+element(65, "\xff"))), n + n + n + element(48, element(48, name+element(3, "\x00"))), n + n + n + element(48, element(48, name+element(128, ""))), n + n + n + element(48, element(48, name+element(130, ""))), n + n + n + element(48, element(48, name+element(64, "abc"))), n + n + n + element(48, element(48, name+element(36, ""))),
		n + n + n + element(48, element(48, name+null)+element(48, name)), n + n + n + element(48, element(48, name+null)+null),
	} {
		for _, tag := range []int{162, 166, 167} {
			isNot(t, ber.Part{Tag: tag, Body: body})
			holdsPart(t, ber.Part{Tag: tag, Body: body})
		}
	}
}

// 8.1: no other tag is a unit's, be the body right.
func TestWrongTags(t *testing.T) {
	for _, u := range []pdu.Unit{{Request: 1}, one()} {
		body := plainBody(u)
		for _, tag := range append(edges(), -1, -89, 418, 422, 423) {
			u.Tag = tag
			if plainCheck(u) {
				isRead(t, ber.Part{Tag: tag, Body: body}, u)
			} else {
				isNot(t, ber.Part{Tag: tag, Body: body})
			}
		}
		for tag := range 256 {
			holdsPart(t, ber.Part{Tag: tag, Body: body})
		}
	}
}

// wide is s, elements, with each length in so many bytes behind its first one, all
// the way down; 0 is the first byte alone.
func wide(t *testing.T, s string, k int) string {
	t.Helper()
	var b strings.Builder
	for s != "" {
		p, rest, e := ber.Next(s)
		if e != api.OK {
			t.Fatalf("%.60q: %d", s, e)
		}
		if p.Tag&32 != 0 {
			p.Body = wide(t, p.Body, k)
		}
		b.WriteByte(byte(p.Tag))
		n := len(p.Body)
		b.WriteString(map[int]string{
			0: string([]byte{byte(n)}),
			1: string([]byte{129, byte(n)}),
			2: string([]byte{130, byte(n >> 8), byte(n)}),
			3: string([]byte{131, byte(n >> 16), byte(n >> 8), byte(n)}),
			4: string([]byte{132, byte(n >> 24), byte(n >> 16), byte(n >> 8), byte(n)}),
		}[k])
		b.WriteString(p.Body)
		s = rest
	}
	return b.String()
}

// 8.1, 8.3: lengths in whichever form make no other unit, and the shortest form is
// the one that Encode tells.
func TestLongForms(t *testing.T) {
	for _, x := range append(known, struct {
		u pdu.Unit
		s string
	}{one(), element(162, plainBody(one()))}) {
		for k := range 5 {
			if k < 2 && len(x.s) > 100 {
				continue
			}
			s := wide(t, x.s, k)
			p, _, _ := ber.Next(s)
			isRead(t, p, x.u)
			short, _ := ber.Canon(s)
			if back, e := pdu.Encode(x.u); back != short || e != api.OK {
				t.Errorf("%.60q, %d, and not %.60q", back, e, short)
			}
		}
	}
}

// grown are bodies that differ in little from that of a unit.
func grown(s string) []string {
	var all []string
	for i := range s {
		for b := range 256 {
			all = append(all, s[:i]+string([]byte{byte(b)})+s[i+1:])
		}
		for _, b := range []byte{0, 1, 2, 5, 6, 48, 127, 128, 255} {
			all = append(all, s[:i]+string([]byte{b})+s[i:])
		}
		all = append(all, s[:i]+s[i+1:], s[:i], s[i:])
	}
	return append(all, s, s+"\x00", s+s)
}

// 8.1, 8.3: each body that differs in little from a unit's.
func TestGrownBodies(t *testing.T) {
	bodies := []string{}
	for _, x := range known {
		bodies = append(bodies, x.s[2:])
	}
	short := one()
	short.Binds = slices.Delete(short.Binds, 5, 6)
	for _, body := range append(bodies, plainBody(short), wide(t, bodies[5], 1), wide(t, bodies[5], 2)) {
		for _, s := range grown(body) {
			holdsPart(t, ber.Part{Tag: pdu.Trap, Body: s})
		}
	}
}

// 8.1, 8.3: what is read is written as it stood, in its shortest form.
func TestThereAndBack(t *testing.T) {
	for _, x := range known {
		for _, body := range grown(x.s[2:]) {
			u, e := pdu.Decode(ber.Part{Tag: x.u.Tag, Body: body})
			if e != api.OK {
				continue
			}
			short, _ := ber.Canon(element(x.u.Tag, body))
			if s, e := pdu.Encode(u); s != short || e != api.OK || pdu.Check(u) != api.OK {
				t.Errorf("%q: %v, then %q, %d", body, u, s, e)
			}
		}
	}
}

// 8.1: as many binds are read as there may be, and not one more.
func TestManyReadBinds(t *testing.T) {
	head := number(1) + number(0) + number(0)
	b := api.Bind{Oid: "1.3", V: api.Value{Kind: api.VOctets, S: strings.Repeat("o", 20)}}
	for _, long := range []int{0, 1, 4095, 4096, 4097, 4098, 10000} {
		p := ber.Part{Tag: pdu.Trap, Body: head + element(48, strings.Repeat(bind(b), long))}
		if long <= api.MaxItems {
			isRead(t, p, pdu.Unit{Tag: pdu.Trap, Request: 1, Binds: slices.Repeat([]api.Bind{b}, long)})
		} else {
			isNot(t, p)
		}
	}
}
