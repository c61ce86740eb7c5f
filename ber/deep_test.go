package ber_test

import (
	"slices"
	"strings"
	"testing"

	"gong/api"
	"gong/ber"
)

// plainAll is the chapter's words for elements that are parts within so many
// others: how deep the deepest is, and the shortest form of all.
func plainAll(s string, within int) (deep int, form string, c api.Code) {
	for s != "" {
		p, rest, ok := plainNext(s)
		if !ok {
			return 0, "", api.ErrBer
		}
		if within+1 > api.MaxDeep {
			return 0, "", api.ErrDeep
		}
		inner, body := 0, p.Body
		if p.Tag/32%2 == 1 {
			if inner, body, c = plainAll(p.Body, within+1); c != api.OK {
				return 0, "", c
			}
		}
		deep, form, s = max(deep, inner+1), form+element(p.Tag, body), rest
	}
	return deep, form, api.OK
}

// plainOne is the chapter's words for one element, whole.
func plainOne(s string) (deep int, form string, c api.Code) {
	_, rest, ok := plainNext(s)
	if !ok {
		return 0, "", api.ErrBer
	}
	if deep, form, c = plainAll(s[:len(s)-len(rest)], 0); c == api.OK && rest != "" {
		return 0, "", api.ErrBer
	}
	return deep, form, c
}

// nest is s within so many others.
func nest(n int, s string) string {
	for range n {
		s = element(0x30, s)
	}
	return s
}

// chance is a row of numbers that look as if by chance.
type chance uint64

func (c *chance) below(n int) int {
	*c += 0x9E3779B97F4A7C15
	x := uint64(*c)
	x = (x ^ x>>30) * 0xBF58476D1CE4E5B9
	x = (x ^ x>>27) * 0x94D049BB133111EB
	return int((x ^ x>>31) % uint64(n))
}

// grown is an element by chance, at most so deep, lengths in whichever form.
func grown(c *chance, most int) string {
	tag := c.below(8)<<5 | c.below(31)
	var body strings.Builder
	switch {
	case tag&32 == 0:
		body.WriteString(strings.Repeat("b", []int{0, 1, 2, 126, 127, 128, 255, 256}[c.below(8)]))
	case most > 1:
		for range c.below(4) {
			body.WriteString(grown(c, most-1))
		}
	}
	l := lengths(body.Len())
	return string([]byte{byte(tag)}) + l[c.below(len(l))] + body.String()
}

// elements are whole elements, of many kinds.
func elements() []string {
	all := []string{"\x05\x00", "\x30\x00", "\x30\x81\x00", "\x02\x82\x00\x01\x05", "\x30\x84\x00\x00\x00\x05\x02\x82\x00\x01\x05", nest(31, "\x05\x00"), nest(31, "\x30\x00")}
	all = append(all, element(0x30, strings.Repeat("\x02\x81\x01\x05", 5000)), element(0x24, strings.Repeat("\x30\x84\x00\x00\x00\x00", 70)))
	var c chance
	for i := range 3000 {
		all = append(all, grown(&c, 1+i%9))
	}
	return all
}

func looksInto(t *testing.T, s string) {
	t.Helper()
	deep, form, c := plainOne(s)
	if n, e := ber.Deep(s); n != deep || e != c {
		t.Errorf("Deep(%q) = %d, %d, not %d, %d", s, n, e, deep, c)
	}
	if got, e := ber.Canon(s); got != form || e != c {
		t.Errorf("Canon(%q) = %q, %d, not %q, %d", s, got, e, form, c)
	}
}

// 5.3
func TestDeepAndCanon(t *testing.T) {
	for _, x := range []struct {
		s     string
		deep  int
		canon string
	}{
		{"\x02\x82\x00\x01\x05", 1, "\x02\x01\x05"}, {"\x02\x01\x05", 1, "\x02\x01\x05"}, {"\x05\x00", 1, "\x05\x00"}, {"\x00\x84\x00\x00\x00\x00", 1, "\x00\x00"},
		{"\x30\x00", 1, "\x30\x00"}, {"\x20\x81\x00", 1, "\x20\x00"}, {"\xfe\x00", 1, "\xfe\x00"}, {"\x30\x02\x05\x00", 2, "\x30\x02\x05\x00"}, {"\x30\x02\x30\x00", 2, "\x30\x02\x30\x00"},
		{"\x30\x82\x00\x05\x02\x82\x00\x01\x05", 2, "\x30\x03\x02\x01\x05"}, {"\x30\x83\x00\x00\x06\x30\x81\x00\x04\x81\x00", 2, "\x30\x04\x30\x00\x04\x00"},
		{"\x30\x06\x05\x00\x31\x02\x05\x00", 3, "\x30\x06\x05\x00\x31\x02\x05\x00"}, {"\x30\x06\x31\x02\x05\x00\x05\x00", 3, "\x30\x06\x31\x02\x05\x00\x05\x00"},
		{"\x04\x05\x02\x82\x00\x01\x05", 1, "\x04\x05\x02\x82\x00\x01\x05"}, {"\x04\x81\x02\x30\x01", 1, "\x04\x02\x30\x01"}, {"\x02\x02\x00\x05", 1, "\x02\x02\x00\x05"}, // not made of parts: nothing is looked at
		{"\x04\x82\x00\x80" + strings.Repeat("a", 128), 1, "\x04\x81\x80" + strings.Repeat("a", 128)}, {"\x04\x81\x7f" + strings.Repeat("a", 127), 1, "\x04\x7f" + strings.Repeat("a", 127)},
		{"\x30\x81\x82\x04\x81\x7f" + strings.Repeat("a", 127), 2, "\x30\x81\x81\x04\x7f" + strings.Repeat("a", 127)}, {"\x30\x81\x80\x04\x81\x7d" + strings.Repeat("a", 125), 2, "\x30\x7f\x04\x7d" + strings.Repeat("a", 125)},
	} {
		if n, e := ber.Deep(x.s); n != x.deep || e != api.OK {
			t.Errorf("Deep(%q) = %d, %d", x.s, n, e)
		}
		if s, e := ber.Canon(x.s); s != x.canon || e != api.OK {
			t.Errorf("Canon(%q) = %q, %d", x.s, s, e)
		}
	}
	for _, s := range elements() {
		looksInto(t, s)
	}
}

func isWrong(t *testing.T, s string, want api.Code) {
	t.Helper()
	if n, e := ber.Deep(s); n != 0 || e != want {
		t.Errorf("Deep(%q) = %d, %d, not %d", s, n, e, want)
	}
	if c, e := ber.Canon(s); c != "" || e != want {
		t.Errorf("Canon(%q) = %q, %d, not %d", s, c, e, want)
	}
}

// 5.3
func TestNotOneElement(t *testing.T) {
	for _, s := range []string{
		"", "\x00", "\x30", "\x1f\x00", "\x04\x80", "\x05\x00\x00", "\x05\x00\x05\x00", "\x30\x00\x30\x00", "\x05\x00\xff", "\x04\x02a", "\x30\x03\x05\x00", "\x30\x81",
		"\x30\x01\x05", "\x30\x02\x1f\x00", "\x30\x02\x05\x01", "\x30\x02\x05\x01a", "\x30\x03\x05\x00\x00", "\x30\x80\x05\x00\x00\x00", "\x30\x04\x30\x02\x05\x01", "\x30\x04\x30\x80\x00\x00", "\x30\x06\x05\x00\x30\x02\x05\x80",
		"\x30\x05\x30\x04\x05\x00\x05\x00", "\x30\x02\x30\x01\x05", "\x30\x04\x31\x01\x05\x00", "\x20\x01\x00", "\x30\x04\x30\x01\x1f\x00",
	} {
		isWrong(t, s, api.ErrBer)
	}
	for _, s := range short("\x00\x01\x02\x05\x1f\x30\x80\x81", 6) {
		looksInto(t, s)
	}
	for i, s := range elements() {
		if i < 300 {
			for at := range min(len(s), 60) {
				isWrong(t, s[:at], api.ErrBer)
				looksInto(t, s[:at]+"\x80"+s[at+1:])
				looksInto(t, s[:at]+"\x30"+s[at+1:])
			}
		}
		isWrong(t, s+"\x00", api.ErrBer)
		isWrong(t, s+s, api.ErrBer)
	}
}

// 5.3: so deep that it just may be, and deeper.
func TestTooDeep(t *testing.T) {
	for n := range 60 {
		for _, s := range []string{nest(n, "\x05\x00"), nest(n, "\x30\x00"), nest(n, "\x04\x02\x30\x00"), element(0x31, "\x05\x00"+nest(n, "\x05\x00")+"\x05\x00")} {
			looksInto(t, s)
		}
		s := nest(n, "\x30\x00")
		deep, e := ber.Deep(s)
		if n < api.MaxDeep && (deep != n+1 || e != api.OK) {
			t.Error(n, deep, e)
		}
		if n >= api.MaxDeep {
			isWrong(t, s, api.ErrDeep)
		}
	}
	s := "\x05\x00"
	for range 2000 {
		s = element(0xA0, s)
	}
	isWrong(t, s, api.ErrDeep)
}

// 5.3: of what is wrong the first one, going through it from its beginning on.
func TestWrongOrTooDeep(t *testing.T) {
	deep, bad := nest(api.MaxDeep, "\x05\x00"), "\x1f\x00"
	for _, x := range []struct {
		s    string
		want api.Code
	}{
		{element(0x30, deep+bad), api.ErrDeep}, {element(0x30, bad+deep), api.ErrBer}, {element(0x30, "\x05\x00"+deep+bad), api.ErrDeep}, {element(0x30, "\x05\x00"+bad+deep), api.ErrBer},
		{deep + bad, api.ErrDeep}, {deep + deep, api.ErrDeep}, {deep + "\x00", api.ErrDeep}, {bad + deep, api.ErrBer}, {"\x05\x00" + deep, api.ErrBer}, {nest(31, "\x05\x00") + deep, api.ErrBer},
		{deep[:len(deep)-1], api.ErrBer}, {"\x30\x84\x7f\xff\xff\xff" + deep, api.ErrBer}, {"\x30\x80" + deep, api.ErrBer}, // what ends too early ends there for all within
		{nest(31, "\x30\x01\x05"), api.ErrBer}, {nest(31, "\x30\x02\x05\x01"), api.ErrBer}, {nest(31, "\x30\x02\x1f\x00"), api.ErrBer}, {nest(31, "\x30\x02\x04\x80"), api.ErrBer}, // what is no element is none that is too deep
		{nest(32, "\x30\x01\x05"), api.ErrDeep}, {nest(32, "\x30\x02\x1f\x00"), api.ErrDeep}, {nest(31, "\x05\x00"+bad), api.ErrBer}, {nest(32, "\x05\x00"+bad), api.ErrDeep}, {nest(32, bad+"\x05\x00"), api.ErrBer},
	} {
		isWrong(t, x.s, x.want)
		looksInto(t, x.s)
	}
}

// 5.3: what Parts and Wrap find too many of is not too much here.
func TestNoMostOfParts(t *testing.T) {
	many := strings.Repeat("\x05\x81\x00", 1<<18)
	s := "\x30\x84\x00\x0c\x00\x00" + many
	if n, e := ber.Deep(s); n != 2 || e != api.OK {
		t.Error(n, e)
	}
	want := "\x30\x83\x08\x00\x00" + strings.Repeat("\x05\x00", 1<<18)
	if c, e := ber.Canon(s); c != want || e != api.OK {
		t.Error(len(c), e)
	}
	body := strings.Repeat("b", 1<<24+1)
	inner := "\x04\x84\x01\x00\x00\x01" + body
	if c, e := ber.Canon(inner); c != inner || e != api.OK {
		t.Error(len(c), e)
	}
	if c, e := ber.Canon(element(0x30, inner+"\x05\x81\x00")); c != element(0x30, inner+"\x05\x00") || e != api.OK {
		t.Error(len(c), e)
	}
}

// leaves are the tags of s, one element, and of its parts, and the bodies of those
// that are not made of parts.
func leaves(t *testing.T, s string) []ber.Part {
	p, _, e := ber.Next(s)
	if e != api.OK {
		t.Fatal(s, e)
	}
	if p.Tag&32 == 0 {
		return []ber.Part{p}
	}
	all := []ber.Part{{Tag: p.Tag}}
	for body := p.Body; body != ""; {
		_, rest, e := ber.Next(body)
		if e != api.OK {
			t.Fatal(s, e)
		}
		all = append(all, leaves(t, body[:len(body)-len(rest)])...)
		body = rest
	}
	return append(all, ber.Part{Tag: -1}) // where it ends
}

// 5.5
func TestShortestForm(t *testing.T) {
	for _, s := range elements() {
		c, _ := ber.Canon(s)
		if again, e := ber.Canon(c); again != c || e != api.OK {
			t.Errorf("%q: %q, then %q, %d", s, c, again, e)
		}
		if len(c) > len(s) {
			t.Errorf("%q: %q is longer", s, c)
		}
		if !slices.Equal(leaves(t, c), leaves(t, s)) {
			t.Errorf("%q: %q has other parts", s, c)
		}
		before, _ := ber.Deep(s)
		if after, e := ber.Deep(c); after != before || e != api.OK {
			t.Errorf("%q: %d deep, then %d", s, before, after)
		}
		p, _, _ := ber.Next(c)
		if wrapped, e := ber.Wrap(p.Tag, p.Body); wrapped != c || e != api.OK {
			t.Errorf("%q: %q, wrapped %q", s, c, wrapped)
		}
	}
}
