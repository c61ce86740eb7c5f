package trap_test

import (
	"slices"
	"strings"
	"testing"

	"gong/api"
	"gong/ber"
	"gong/oid"
	"gong/trap"
	"gong/value"
)

// at is the parts of s, elements; none, if s is not such.
func at(s string) []ber.Part {
	l, _ := ber.Parts(s)
	return l
}

// guess is the trap that s would be the message of, if it is one's, and what else
// its unit tells: what can't be read is left out, or as may be.
func guess(s string) (x api.Trap, tag, status, index int) {
	whole, _, _ := ber.Next(s)
	three := at(whole.Body)
	if len(three) < 3 {
		return x, 0, 0, 0
	}
	x.Community = three[1].Body
	x.Inform = three[2].Tag == 166
	four := at(three[2].Body)
	if len(four) < 4 {
		return x, 0, 0, 0
	}
	x.Request, _ = ber.Number(four[0].Body)
	status, _ = ber.Number(four[1].Body)
	index, _ = ber.Number(four[2].Body)
	for i, b := range at(four[3].Body) {
		two := at(b.Body)
		if len(two) < 2 {
			return x, 0, 0, 0
		}
		name, _ := oid.Decode(two[0].Body)
		v, _ := value.Decode(two[1])
		switch i {
		case 0:
			x.Uptime = v.N
		case 1:
			x.Id = v.S
		default:
			x.Binds = append(x.Binds, api.Bind{Oid: name, V: v})
		}
	}
	return x, three[2].Tag, status, index
}

// mayBeOne tells whether a trap's message may have a unit of these beside the trap.
func mayBeOne(tag, status, index int) bool {
	return (tag == 166 || tag == 167) && min(status, index) >= 0 && max(status, index) <= 2147483647
}

// holdsText holds s to the chapter's words: it is a trap's message, if there is a
// trap that may be, and a Status and an Index, whose message has the same shortest
// form.
func holdsText(t *testing.T, s string) {
	t.Helper()
	x, tag, status, index := guess(s)
	short, e := ber.Canon(s)
	if e == api.OK && len(s) <= 65535 && plainCheck(x) && mayBeOne(tag, status, index) && short == message(x.Community, unit(tag, x.Request, status, index, binds(x))) {
		isRead(t, s, x)
	} else {
		isNot(t, s)
	}
}

// parts of cold's message, from which others are put together.
func pieces() (version, community, list, body string) {
	list = element(48, ownBinds)
	return number(1), element(4, "public"), list, number(7) + number(0) + number(0) + list
}

// 9.2: what is around the unit.
func TestWrongMessages(t *testing.T) {
	v, c, _, body := pieces()
	u := element(167, body)
	good := element(48, v+c+u)
	isRead(t, good, cold())
	for _, s := range []string{
		"", "0", "\x30", "\x30\x00", good[1:], good[:len(good)-1], good + "\x00", good + good, "\x00" + good, " " + good, u, body, v + c + u,
		element(49, v+c+u), element(16, v+c+u), element(4, v+c+u), element(167, v+c+u), element(48, good),
		element(48, ""), element(48, v), element(48, v+c), element(48, c+u), element(48, v+u), element(48, v+c+u+u), element(48, v+c+u+"\x05\x00"), element(48, "\x05\x00"+v+c+u), element(48, v+c+u+"\x00"), element(48, v+c+c+u), element(48, v+v+c+u), element(48, c+v+u), element(48, v+u+c), element(48, u+v+c), element(48, v+c+element(48, u)), element(48, v+element(48, c+u)),
		element(48, number(0)+c+u), element(48, number(2)+c+u), element(48, number(3)+c+u), element(48, number(-1)+c+u), element(48, number(257)+c+u), element(48, element(2, "")+c+u), element(48, element(2, "\x00\x01")+c+u), element(48, element(2, "\x01\x00")+c+u), element(48, element(2, "\x01\x01")+c+u),
		element(48, element(65, "\x01")+c+u), element(48, element(34, "\x01")+c+u), element(48, element(34, v)+c+u), element(48, element(10, "\x01")+c+u), element(48, element(4, "\x01")+c+u), element(48, element(66, "\x01")+c+u),
		element(48, v+element(4, "")+u), element(48, v+element(4, strings.Repeat("c", 65))+u), element(48, v+element(4, strings.Repeat("c", 300))+u), element(48, v+element(36, "public")+u), element(48, v+element(36, c)+u), element(48, v+element(68, "public")+u), element(48, v+element(12, "public")+u), element(48, v+element(2, "p")+u), element(48, v+"\x05\x00"+u), element(48, v+element(6, "\x2b")+u),
	} {
		isNot(t, s)
		holdsText(t, s)
	}
	for _, name := range []string{"p", "\x00", "\xff\xfe", strings.Repeat("c", 64)} {
		x := cold()
		x.Community = name
		isRead(t, element(48, v+element(4, name)+u), x)
	}
}

// 9.2: which units are traps': those with the tag of one.
func TestUnitsTags(t *testing.T) {
	v, c, list, body := pieces()
	for tag := range 256 {
		u, e := ber.Wrap(tag, body)
		if e != api.OK {
			u = string([]byte{byte(tag), byte(len(body))}) + body
		}
		s := element(48, v+c+u)
		holdsText(t, s)
		if x, e := trap.Decode(s, []string{"public"}); (e == api.OK) != (tag == 166 || tag == 167) || x.Inform != (tag == 166) {
			t.Errorf("%d: %v, %d", tag, x, e)
		}
	}
	for _, body := range []string{"", list, number(7) + list, number(7) + number(0) + list, number(7) + number(0) + number(0) + number(0) + list, number(0) + body, body + list, body + "\x00", body[:len(body)-1], number(7) + number(0) + number(0) + element(49, ownBinds), number(7) + number(0) + list + number(0), number(1<<31) + number(0) + number(0) + list, element(66, "\x07") + number(0) + number(0) + list, element(2, "\x00\x07") + number(0) + number(0) + list} {
		for _, tag := range []int{166, 167} {
			isNot(t, element(48, v+c+element(tag, body)))
			holdsText(t, element(48, v+c+element(tag, body)))
		}
	}
}

// 9.2: Status and Index may be any that a unit may have, and the trap tells nothing
// of them.
func TestStatusAndIndex(t *testing.T) {
	for _, n := range edges() {
		for _, tag := range []int{166, 167} {
			x := cold()
			x.Inform = tag == 166
			for _, u := range []string{unit(tag, 7, n, 0, ownBinds), unit(tag, 7, 0, n, ownBinds), unit(tag, 7, n, 5, ownBinds), unit(tag, 7, n, n, ownBinds)} {
				s := message("public", u)
				holdsText(t, s)
				if n >= 0 && n < 1<<31 {
					isRead(t, s, x)
				} else {
					isNot(t, s)
				}
			}
		}
	}
}

// 9.2: the first two binds, and what may not stand for them.
func TestFirstTwoBinds(t *testing.T) {
	up, id := "1.3.6.1.2.1.1.3.0", "1.3.6.1.6.3.1.1.4.1.0"
	ticks, name := api.Value{Kind: api.VTicks, N: 300}, api.Value{Kind: api.VOid, S: "1.3.6.1.6.3.1.1.5.1"}
	first, second := bind(up, ticks), bind(id, name)
	if first+second != ownBinds {
		t.Fatalf("%q", first+second)
	}
	null := api.Value{Kind: api.VNull}
	other := bind("1.3", null)
	for _, l := range []string{
		"", first, second, other, second + first, first + first, second + second, first + other, other + second, other + first + second, first + other + second, first + first + second, second + first + first + second,
		bind("1.3.6.1.2.1.1.3", ticks) + second, bind("1.3.6.1.2.1.1.3.1", ticks) + second, bind("1.3.6.1.2.1.1.3.0.0", ticks) + second, bind("1.3.6.1.2.1.1.5.0", ticks) + second, bind("1.3", ticks) + second, bind(id, ticks) + second,
		first + bind("1.3.6.1.6.3.1.1.4.1", name), first + bind("1.3.6.1.6.3.1.1.4.1.1", name), first + bind("1.3.6.1.6.3.1.1.4.1.0.0", name), first + bind("1.3.6.1.6.3.1.1.4.3.0", name), first + bind("1.3", name), first + bind(up, name),
		bind(up, name) + second, bind(up, null) + second, first + bind(id, ticks), first + bind(id, null), bind(up, name) + bind(id, ticks), bind(id, name) + bind(up, ticks),
		bind(up, api.Value{Kind: api.VInt, N: 300}) + second, bind(up, api.Value{Kind: api.VCounter, N: 300}) + second, bind(up, api.Value{Kind: api.VGauge, N: 300}) + second, bind(up, value.Big(300)) + second, bind(up, api.Value{Kind: api.VOctets, S: "\x01\x2c"}) + second, bind(up, api.Value{Kind: api.VOpaque, S: "\x01\x2c"}) + second,
		first + bind(id, api.Value{Kind: api.VOctets, S: name.S}), first + bind(id, api.Value{Kind: api.VOpaque, S: name.S}), first + bind(id, api.Value{Kind: api.VOctets, S: "\x2b\x06"}), first + bind(id, api.Value{Kind: api.VInt, N: 1}),
		element(48, first+second), element(48, first) + second, first + element(49, second[2:]), element(49, first[2:]) + second, first + second[:len(second)-1], first + second + "\x00", first + second + "\x05\x00", first + second + number(1), first + second + element(48, ""),
	} {
		for _, tag := range []int{166, 167} {
			s := message("public", unit(tag, 7, 0, 0, l))
			isNot(t, s)
			holdsText(t, s)
		}
	}
	for _, l := range [][]api.Bind{nil, {{Oid: up, V: ticks}}, {{Oid: id, V: name}}, {{Oid: up, V: ticks}, {Oid: id, V: name}}, {{Oid: up, V: name}, {Oid: id, V: ticks}}, {{Oid: "1.3", V: null}}} {
		both(t, with(l...))
	}
}

// 9.2: whose community is known, and who is not. That is asked last.
func TestWhoIsKnown(t *testing.T) {
	for _, y := range known {
		c := y.x.Community
		for _, l := range [][]string{{c}, {"x", c}, {c, "x"}, {"x", "y", "", c, "z"}, {c, c}, append(slices.Repeat([]string{"other"}, 5000), c)} {
			if x, e := trap.Decode(y.s, l); !same(x, y.x) || e != api.OK {
				t.Errorf("%q: %v, %d", l[:1], tell(x), e)
			}
		}
		for _, l := range [][]string{nil, {}, {""}, {strings.ToUpper(c)}, {c + "\x00"}, {c + c}, {c[1:]}, {" " + c, c + " "}, {"*", "x"}} {
			isRefused(t, y.s, l, api.ErrWho)
			isRefused(t, y.s+"\x00", l, api.ErrTrap)
			isRefused(t, y.s[:len(y.s)-1], l, api.ErrTrap)
			isRefused(t, strings.Replace(y.s, "\x02\x01\x01", "\x02\x01\x00", 1), l, api.ErrTrap)
		}
	}
	isNot(t, message("", unit(167, 7, 0, 0, ownBinds)))
	isNot(t, message(strings.Repeat("c", 65), unit(167, 7, 0, 0, ownBinds)))
	isRefused(t, message(strings.Repeat("c", 65), unit(167, 7, 0, 0, ownBinds)), []string{strings.Repeat("c", 65)}, api.ErrTrap)
}

// wide is s, elements, with each length in so many bytes behind its first one, all
// the way down.
func wide(s string, k int) string {
	var b strings.Builder
	for s != "" {
		p, rest, e := ber.Next(s)
		if e != api.OK {
			panic(e)
		}
		if p.Tag&32 != 0 {
			p.Body = wide(p.Body, k)
		}
		b.Write([]byte{byte(p.Tag), byte(128 + k)})
		for i := k - 1; i >= 0; i-- {
			b.WriteByte(byte(len(p.Body) >> (8 * i)))
		}
		b.WriteString(p.Body)
		s = rest
	}
	return b.String()
}

// 9.2, 9.4: lengths in whichever form make no other trap, and the shortest form is
// the one that Encode tells.
func TestLongForms(t *testing.T) {
	for _, x := range []api.Trap{cold(), full(), asking(cold()), known[2].x, known[3].x} {
		s, _ := trap.Encode(x)
		for k := 2; k <= 4; k++ {
			w := wide(s, k)
			isRead(t, w, x)
			if short, e := ber.Canon(w); short != s || e != api.OK {
				t.Errorf("%q, %d", short, e)
			}
		}
	}
	isRead(t, wide(known[0].s, 1), cold())
	isNot(t, "\x30\x80"+known[0].s[2:]+"\x00\x00") // a length that is not told ahead
	isNot(t, "\x30\x85\x00\x00\x00\x00\x41"+known[0].s[2:])
}

// 9.2: a message has at most 65535 bytes, in whichever form.
func TestLongTexts(t *testing.T) {
	found := map[int]int{}
	for long := 65370; long < 65430; long++ {
		x := with(api.Bind{Oid: "1.3", V: api.Value{Kind: api.VOctets, S: strings.Repeat("o", long)}})
		s, _ := plainMessage(x)
		for _, k := range []int{3, 4} {
			w := wide(s, k)
			found[len(w)]++
			holdsText(t, w)
			if _, e := trap.Decode(w, []string{"public"}); (e == api.OK) != (len(w) <= 65535) {
				t.Errorf("%d: %d", len(w), e)
			}
		}
	}
	for long := 65530; long < 65540; long++ {
		if found[long] != 2 {
			t.Errorf("%d have %d bytes", found[long], long)
		}
	}
	x := with(slices.Repeat([]api.Bind{{Oid: "1.3", V: api.Value{Kind: api.VNull}}}, 4094)...)
	s, _ := plainMessage(x)
	isRead(t, s, x)
	x.Binds = append(x.Binds, x.Binds[0])
	s, _ = plainMessage(x)
	isNot(t, s)
	isNot(t, wide(s, 2))
}

// grown are texts that differ in little from s.
func grown(s string) []string {
	var all []string
	for i := range s {
		for b := range 256 {
			all = append(all, s[:i]+string([]byte{byte(b)})+s[i+1:])
		}
		for _, b := range []byte{0, 1, 2, 4, 5, 48, 127, 128, 167, 255} {
			all = append(all, s[:i]+string([]byte{b})+s[i:])
		}
		all = append(all, s[:i]+s[i+1:], s[:i], s[i:])
	}
	return append(all, s, s+"\x00", s+s)
}

// 9.2: each text that differs in little from a message.
func TestGrownTexts(t *testing.T) {
	answer, _ := trap.Answer(asking(cold()))
	whole, _ := trap.Encode(full())
	for _, s := range []string{known[0].s, known[1].s, known[2].s, known[3].s, answer, whole, wide(known[2].s, 1), wide(known[2].s, 2)} {
		for _, g := range grown(s) {
			holdsText(t, g)
		}
	}
}

// 9.4: what is read is written as it stood, but for Status and Index, in its
// shortest form; what is written is read as it was.
func TestThereAndBack(t *testing.T) {
	for _, y := range known {
		for _, g := range grown(y.s) {
			x, _, status, index := guess(g)
			x, e := trap.Decode(g, []string{x.Community})
			if e != api.OK {
				continue
			}
			short, _ := ber.Canon(g)
			s, e := trap.Encode(x)
			if e != api.OK || trap.Check(x) != api.OK || len(s) > len(g) {
				t.Errorf("%q: %v, then %q, %d", g, tell(x), s, e)
			}
			if (s == short) != (status == 0 && index == 0) {
				t.Errorf("%q: %q, and not %q", g, s, short)
			}
			if back, e := trap.Decode(s, []string{x.Community}); !trap.Same(back, x) || e != api.OK {
				t.Errorf("%q: %v, %d", s, tell(back), e)
			}
		}
	}
}

// 9.4: an answer is no trap, whoever is known, and in whichever form.
func TestAnswersAreNoTraps(t *testing.T) {
	for _, x := range []api.Trap{asking(cold()), full(), asking(known[2].x), asking(known[3].x)} {
		s, e := trap.Answer(x)
		if e != api.OK {
			t.Errorf("%v: %d", tell(x), e)
		}
		for _, s := range []string{s, wide(s, 2), wide(s, 4)} {
			isNot(t, s)
			isRefused(t, s, []string{x.Community}, api.ErrTrap)
		}
	}
}
