package ber_test

import (
	"math"
	"slices"
	"strings"
	"testing"

	"gong/api"
	"gong/ber"
)

// plainTag is the chapter's words for a tag, of a number.
func plainTag(n int) bool {
	return n >= 0 && n < 256 && n%32 != 31
}

// plainNext is the chapter's words for the element at the beginning of s.
func plainNext(s string) (p ber.Part, rest string, ok bool) {
	if len(s) < 2 || !plainTag(int(s[0])) {
		return ber.Part{}, "", false
	}
	long, at := int(s[1]), 2
	if long >= 128 {
		k := long - 128
		if k < 1 || k > 4 || len(s) < 2+k {
			return ber.Part{}, "", false
		}
		long = 0
		for _, b := range []byte(s[2 : 2+k]) {
			long = 256*long + int(b)
		}
		at = 2 + k
	}
	if long > len(s)-at {
		return ber.Part{}, "", false
	}
	return ber.Part{Tag: int(s[0]), Body: s[at : at+long]}, s[at+long:], true
}

// plainParts is the chapter's words for elements, one behind the other.
func plainParts(s string) (all []ber.Part, ok bool) {
	for s != "" {
		p, rest, ok := plainNext(s)
		if !ok {
			return nil, false
		}
		all, s = append(all, p), rest
	}
	return all, true
}

// lengths are how long may stand ahead of a body, the shortest way first.
func lengths(long int) []string {
	var all []string
	if long < 128 {
		all = append(all, string([]byte{byte(long)}))
	}
	for k := 1; k <= 4; k++ {
		if long>>(8*k) == 0 {
			b := []byte{byte(128 + k)}
			for i := k - 1; i >= 0; i-- {
				b = append(b, byte(long>>(8*i)))
			}
			all = append(all, string(b))
		}
	}
	return all
}

// element is one with the shortest length.
func element(tag int, body string) string {
	return string([]byte{byte(tag)}) + lengths(len(body))[0] + body
}

// short is all texts of these bytes that have at most so many.
func short(bytes string, most int) []string {
	all, ahead := []string{""}, []string{""}
	for range most {
		var next []string
		for _, s := range ahead {
			for i := range len(bytes) {
				next = append(next, s+bytes[i:i+1])
			}
		}
		all, ahead = append(all, next...), next
	}
	return all
}

// odd are numbers at and beyond the edges of what may be.
func odd() []int {
	return []int{math.MinInt, -1 << 32, -256, -129, -128, -127, -32, -2, -1, 256, 257, 287, 1 << 16, 1 << 31, 1<<32 + 2, math.MaxInt - 1, math.MaxInt}
}

// 5.1
func TestNext(t *testing.T) {
	x127, x128, x255, x300 := strings.Repeat("x", 127), strings.Repeat("y", 128), strings.Repeat("z", 255), strings.Repeat("w", 300)
	for _, x := range []struct {
		s    string
		tag  int
		body string
		rest string
	}{
		{"\x02\x01\x05", 2, "\x05", ""}, {"\x02\x82\x00\x01\x05", 2, "\x05", ""}, {"\x02\x01\x05\x02\x01", 2, "\x05", "\x02\x01"},
		{"\x00\x00", 0, "", ""}, {"\x05\x00\xff", 5, "", "\xff"}, {"\x1e\x01a", 0x1E, "a", ""}, {"\xfe\x01a", 0xFE, "a", ""}, {"\x20\x00\x00", 0x20, "", "\x00"},
		{"\x04\x81\x00", 4, "", ""}, {"\x04\x84\x00\x00\x00\x00!", 4, "", "!"}, {"\x04\x84\x00\x00\x00\x02ab!", 4, "ab", "!"}, {"\x04\x83\x00\x00\x02ab!", 4, "ab", "!"}, {"\x04\x81\x02ab!", 4, "ab", "!"},
		{"\x04\x7f" + x127 + "!", 4, x127, "!"}, {"\x04\x81\x7f" + x127 + "!", 4, x127, "!"}, {"\x04\x81\x80" + x128 + "!", 4, x128, "!"}, {"\x04\x81\xff" + x255 + "!", 4, x255, "!"},
		{"\x04\x82\x01\x2c" + x300 + "!", 4, x300, "!"}, {"\x04\x84\x00\x00\x01\x2c" + x300 + "!", 4, x300, "!"},
		{"\x30\x01\xff!", 0x30, "\xff", "!"}, {"\x30\x02\x1f\x00", 0x30, "\x1f\x00", ""}, {"\x30\x03\x02\x05\x01", 0x30, "\x02\x05\x01", ""}, // parts are not looked at
	} {
		if p, rest, e := ber.Next(x.s); p != (ber.Part{Tag: x.tag, Body: x.body}) || rest != x.rest || e != api.OK {
			t.Errorf("Next(%q) = %#v, %q, %d", x.s, p, rest, e)
		}
	}
	for _, s := range []string{
		"", "\x02", "\x02\x01", "\x02\x02a", "\x04\x7f" + x127[1:], "\x1f\x00", "\x1f\x01a", "\x3f\x00", "\x5f\x00", "\x7f\x00", "\x9f\x00", "\xbf\x00", "\xdf\x00", "\xff\x00", "\x1f\x81\x00\x00",
		"\x04\x80", "\x04\x80\x00\x00", "\x30\x80\x00\x00", "\x04\x80ab\x00\x00", "\x04\x81", "\x04\x82\x00", "\x04\x84\x00\x00\x00", "\x04\x81\x01", "\x04\x82\x00\x02a", "\x04\x81\x80" + x127,
		"\x04\x85\x00\x00\x00\x00\x00", "\x04\x85\x00\x00\x00\x00\x01a", "\x04\x88\x00\x00\x00\x00\x00\x00\x00\x00", "\x04\x89\x00\x00\x00\x00\x00\x00\x00\x00\x00", "\x04\xff\x00",
		"\x04\x84\xff\xff\xff\xffa", "\x04\x84\x80\x00\x00\x00a", "\x04\x83\xff\xff\xffa", "\x04\x84\x01\x00\x00\x00",
	} {
		noNext(t, s)
	}
}

func noNext(t *testing.T, s string) {
	t.Helper()
	if p, rest, e := ber.Next(s); p != (ber.Part{}) || rest != "" || e != api.ErrBer {
		t.Errorf("Next(%q) = %#v, %q, %d", s, p, rest, e)
	}
}

// 5.1: each tag, each first byte of a length, and all that few bytes may be.
func TestNextOfEachByte(t *testing.T) {
	all := short("\x00\x01\x02\x03\x1f\x30\x7f\x80\x81\x82\x84\x85\xff", 5)
	for b := range 256 {
		tag := string([]byte{byte(b)})
		all = append(all, tag+"\x00", tag+"\x02abc", "\x04"+tag, "\x04"+tag+"\x00\x00\x00\x01ab", "\x04"+tag+strings.Repeat("\x00", 300), "\x04"+tag+strings.Repeat("\x01", 300))
	}
	for _, s := range all {
		want, behind, ok := plainNext(s)
		if !ok {
			noNext(t, s)
			continue
		}
		if p, rest, e := ber.Next(s); p != want || rest != behind || e != api.OK {
			t.Errorf("Next(%q) = %#v, %q, %d", s, p, rest, e)
		}
	}
}

// 5.1
func TestParts(t *testing.T) {
	for _, x := range []struct {
		body string
		want []ber.Part
	}{
		{"", nil}, {"\x05\x00", []ber.Part{{Tag: 5}}}, {"\x02\x01\x05\x04\x81\x02ab", []ber.Part{{2, "\x05"}, {4, "ab"}}},
		{"\x30\x02\x05\x00\x05\x00", []ber.Part{{0x30, "\x05\x00"}, {Tag: 5}}}, {"\x30\x01\xff\x00\x00", []ber.Part{{0x30, "\xff"}, {}}},
	} {
		if l, e := ber.Parts(x.body); !slices.Equal(l, x.want) || e != api.OK {
			t.Errorf("Parts(%q) = %#v, %d", x.body, l, e)
		}
	}
	for _, s := range []string{"\x00", "\x05\x00\x05", "\x05\x00\x1f\x00", "\x05\x00\x04\x02a", "\x04\x80\x05\x00\x00", "\xff\x05\x00", "\x05\x00\x05\x00\x05\x01"} {
		noParts(t, s, api.ErrBer)
	}
	for _, s := range short("\x00\x01\x02\x05\x1f\x30\x81\x82", 6) {
		want, ok := plainParts(s)
		if !ok {
			noParts(t, s, api.ErrBer)
			continue
		}
		if l, e := ber.Parts(s); !slices.Equal(l, want) || e != api.OK {
			t.Errorf("Parts(%q) = %#v, %d", s, l, e)
		}
	}
}

func noParts(t *testing.T, s string, want api.Code) {
	t.Helper()
	if l, e := ber.Parts(s); len(l) != 0 || e != want {
		t.Errorf("Parts of %d bytes: %d of them, %d", len(s), len(l), e)
	}
}

// 5.1: more than there may be are so only up to the first thing that is wrong.
func TestPartsAtTheMost(t *testing.T) {
	most := strings.Repeat("\x02\x01\x05", api.MaxItems)
	l, e := ber.Parts(most)
	if len(l) != api.MaxItems || e != api.OK || l[0] != l[api.MaxItems-1] || l[0] != (ber.Part{Tag: 2, Body: "\x05"}) {
		t.Error(len(l), e)
	}
	for _, x := range []struct {
		behind string
		want   api.Code
	}{
		{"\x00", api.ErrBer}, {"\x02\x01", api.ErrBer}, {"\x1f\x00", api.ErrBer}, {"\xff\x05\x00\x05\x00", api.ErrBer}, {"\x05\x80\x05\x00", api.ErrBer},
		{"\x05\x00", api.ErrLong}, {"\x02\x01\x05", api.ErrLong}, {"\x05\x00\xff", api.ErrLong}, {"\x30\x01\xff", api.ErrLong}, {"\x05\x00\x05\x00", api.ErrLong},
		{most, api.ErrLong}, {most + "\x00", api.ErrLong},
	} {
		noParts(t, most+x.behind, x.want)
	}
	noParts(t, "\x1f\x00"+most+most, api.ErrBer)
	noParts(t, most[3:]+"\xff"+most, api.ErrBer)
}

// 5.2
func TestWrap(t *testing.T) {
	for tag := range 256 {
		if s, e := ber.Wrap(tag, "ab"); plainTag(tag) && (s != element(tag, "ab") || e != api.OK) {
			t.Errorf("Wrap(%d) = %q, %d", tag, s, e)
		}
		if !plainTag(tag) {
			noWrap(t, tag, "ab", api.ErrRange)
		}
	}
	for _, tag := range odd() {
		noWrap(t, tag, "ab", api.ErrRange)
		noWrap(t, tag, "", api.ErrRange)
	}
	for _, x := range []struct {
		long int
		head string
	}{
		{0, "\x00"}, {1, "\x01"}, {127, "\x7f"}, {128, "\x81\x80"}, {255, "\x81\xff"}, {256, "\x82\x01\x00"}, {300, "\x82\x01\x2c"}, {1<<16 - 1, "\x82\xff\xff"},
		{1 << 16, "\x83\x01\x00\x00"}, {1<<24 - 1, "\x83\xff\xff\xff"}, {1 << 24, "\x84\x01\x00\x00\x00"},
	} {
		body := strings.Repeat("b", x.long)
		if s, e := ber.Wrap(0xA7, body); s != "\xa7"+x.head+body || e != api.OK {
			t.Errorf("Wrap of %d bytes: %d bytes, %d", x.long, len(s), e)
		}
	}
	noWrap(t, 4, strings.Repeat("b", 1<<24+1), api.ErrLong)
	noWrap(t, 0x30, strings.Repeat("b", 1<<25), api.ErrLong)
}

func noWrap(t *testing.T, tag int, body string, want api.Code) {
	t.Helper()
	if s, e := ber.Wrap(tag, body); s != "" || e != want {
		t.Errorf("Wrap(%d) of %d bytes: %d bytes, %d", tag, len(body), len(s), e)
	}
}

// 5.5
func TestWrapThereAndBack(t *testing.T) {
	for tag := range 256 {
		for _, long := range []int{0, 1, 2, 127, 128, 129, 255, 256, 257, 65535, 65536} {
			body := strings.Repeat("\x85", long)
			s, e := ber.Wrap(tag, body)
			if e != api.OK {
				continue
			}
			if p, rest, e := ber.Next(s + "\x02"); p != (ber.Part{Tag: tag, Body: body}) || rest != "\x02" || e != api.OK {
				t.Errorf("%d, %d bytes: %d, %d bytes, %q, %d", tag, long, p.Tag, len(p.Body), rest, e)
			}
			for i, length := range lengths(long) {
				if i == 0 && s != string([]byte{byte(tag)})+length+body || len(s) > 1+len(length)+long {
					t.Errorf("%d, %d bytes: %d bytes", tag, long, len(s))
				}
			}
		}
	}
	var all strings.Builder
	var want []ber.Part
	for i := range api.MaxItems {
		p := ber.Part{Tag: i % 31, Body: strings.Repeat("p", i%300)}
		s, _ := ber.Wrap(p.Tag, p.Body)
		all.WriteString(s)
		want = append(want, p)
	}
	if l, e := ber.Parts(all.String()); !slices.Equal(l, want) || e != api.OK {
		t.Error(len(l), e)
	}
}
