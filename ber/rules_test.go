package ber_test

import (
	"slices"
	"strings"
	"testing"

	"gong/api"
	"gong/ber"
)

// texts are elements, whole, cut, and turned, and what is none.
func texts() []string {
	all := append(bodies()[:2000], "", strings.Repeat("\x00", 1<<16), strings.Repeat("\x30", 1<<16), strings.Repeat("\x30\x80", 1<<16), strings.Repeat("\xff", 1<<16), strings.Repeat("\x30\x84\xff\xff\xff\xff", 1<<14))
	var c chance
	for i := range 2000 {
		b := []byte(grown(&c, 1+i%5))
		b[c.below(len(b))] = byte(c.below(256))
		b[c.below(len(b))] ^= 1 << c.below(8)
		all = append(all, string(b), string(b[:c.below(len(b))]))
	}
	for n := range 40 {
		all = append(all, nest(n, "\x05\x00"), nest(n, "\x05"))
	}
	return all
}

// P1, R5: every call ends at all arguments; what is refused answers nothing.
func TestAllArguments(t *testing.T) {
	for _, s := range texts() {
		p, rest, e := ber.Next(s)
		if e != api.OK && (p != ber.Part{} || rest != "" || e != api.ErrBer) || e == api.OK && (!plainTag(p.Tag) || !strings.HasSuffix(s, p.Body+rest)) {
			t.Errorf("Next(%q) = %#v, %q, %d", s, p, rest, e)
		}
		l, e := ber.Parts(s)
		want, ok := plainParts(s)
		ok = ok && len(want) <= api.MaxItems
		if ok != (e == api.OK) || ok && !slices.Equal(l, want) || !ok && len(l) != 0 {
			t.Errorf("Parts(%q) = %#v, %d", s, l, e)
		}
		looksInto(t, s)
		if n, e := ber.Number(s); e != api.OK && (n != 0 || e != api.ErrBer) {
			t.Errorf("Number(%q) = %d, %d", s, n, e)
		}
		if n, e := ber.Unsigned(s); e != api.OK && (n != 0 || e != api.ErrBer) {
			t.Errorf("Unsigned(%q) = %d, %d", s, n, e)
		}
		for _, tag := range append(odd(), 0, 2, 31, 48, 63, 254, 255) {
			if w, e := ber.Wrap(tag, s); plainTag(tag) != (e == api.OK) || (w == "") != (e != api.OK) {
				t.Errorf("Wrap(%d, %q) = %q, %d", tag, s, w, e)
			}
		}
	}
	for _, n := range odd() {
		if a, b := ber.PutNumber(n), ber.PutUnsigned(uint64(n)); len(a) < 1 || len(a) > 8 || len(b) < 1 || len(b) > 9 {
			t.Errorf("%d: %q, %q", n, a, b)
		}
	}
}

// R1: of several things that are wrong the first one is answered.
func TestFirstWrongThing(t *testing.T) {
	long := strings.Repeat("b", 1<<24+1)
	for _, tag := range []int{-1, 31, 63, 255, 256} {
		noWrap(t, tag, long, api.ErrRange)
	}
}

// R2: what the chapter does not refuse may be: any bytes as a body, also of what
// is made of parts; the tag 0; a length that begins with 0.
func TestWhatIsNotRefused(t *testing.T) {
	for _, body := range []string{"", "\xff", "\x05", "\x1f\x00", strings.Repeat("\x80", 200)} {
		for _, tag := range []int{0, 4, 32, 48, 254} {
			s, e := ber.Wrap(tag, body)
			if s != element(tag, body) || e != api.OK {
				t.Errorf("Wrap(%d, %q) = %q, %d", tag, body, s, e)
			}
			for _, length := range lengths(len(body)) {
				p, rest, e := ber.Next(string([]byte{byte(tag)}) + length + body)
				if p != (ber.Part{Tag: tag, Body: body}) || rest != "" || e != api.OK {
					t.Errorf("%d, %q, %q: %#v, %q, %d", tag, length, body, p, rest, e)
				}
			}
		}
	}
}

// R3: no bytes, no parts; it is right.
func TestNothing(t *testing.T) {
	if l, e := ber.Parts(""); len(l) != 0 || e != api.OK {
		t.Error(l, e)
	}
}

// R4, R7: an answer is its own: it stays, spare room too, whatever is called later.
func TestAnswersAreTheirOwn(t *testing.T) {
	body := strings.Repeat("\x02\x82\x00\x01\x05\x30\x02\x05\x00", 3)
	want := []ber.Part{{2, "\x05"}, {0x30, "\x05\x00"}, {2, "\x05"}, {0x30, "\x05\x00"}, {2, "\x05"}, {0x30, "\x05\x00"}}
	first, _ := ber.Parts(body)
	last, _ := ber.Parts(body)
	for i := range last[:cap(last)] {
		last[:cap(last)][i] = ber.Part{Tag: -1, Body: "no"}
	}
	if !slices.Equal(first, want) {
		t.Error(first)
	}
	for range 2 {
		s, _ := ber.Wrap(0x30, body)
		c, _ := ber.Canon(s)
		p, rest, _ := ber.Next(c + "ab")
		n, u := ber.PutNumber(-300), ber.PutUnsigned(1<<63)
		ber.Wrap(4, "no")
		ber.Canon("\x30\x03\x04\x81\x00")
		ber.Deep(nest(40, ""))
		ber.PutNumber(7)
		ber.PutUnsigned(7)
		if deep, e := ber.Deep(s); deep != 3 || e != api.OK {
			t.Error(deep, e)
		}
		short := strings.Repeat("\x02\x01\x05\x30\x02\x05\x00", 3)
		if s != "\x30\x1b"+body || c != "\x30\x15"+short || p != (ber.Part{Tag: 0x30, Body: short}) || rest != "ab" || n != "\xfe\xd4" || u != "\x00\x80\x00\x00\x00\x00\x00\x00\x00" {
			t.Errorf("%q %q %#v %q %q %q", s, c, p, rest, n, u)
		}
		if l, e := ber.Parts(body); !slices.Equal(l, want) || e != api.OK {
			t.Error(l, e)
		}
	}
}
