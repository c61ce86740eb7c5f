package utf_test

import (
	"math"
	"slices"
	"strings"
	"testing"
	"unicode/utf8"

	"gong/api"
	"gong/utf"
)

const lastCharacter = 0x10FFFF

// isCharacter is the chapter's words for characters.
func isCharacter(c int) bool {
	if c >= 0xD800 && c <= 0xDFFF {
		return false
	}
	return c >= 0 && c <= lastCharacter
}

// noCharacters are numbers that are none: all of the gap, and what lies outside.
func noCharacters() []int {
	all := []int{math.MinInt, -1 << 32, -0x80, -2, -1, lastCharacter + 1, lastCharacter + 2, 1 << 21, 1 << 31, 1 << 32, 1<<32 + 'a', math.MaxInt}
	for c := 0xD800; c <= 0xDFFF; c++ {
		all = append(all, c)
	}
	return all
}

// form is a number's bits put as so many bytes, whether it may stand so or not.
func form(c, long int) string {
	b := func(n int) byte { return byte(n) }
	switch long {
	case 1:
		return string([]byte{b(c)})
	case 2:
		return string([]byte{b(0xC0 + c/64), b(0x80 + c%64)})
	case 3:
		return string([]byte{b(0xE0 + c/4096), b(0x80 + c/64%64), b(0x80 + c%64)})
	}
	return string([]byte{b(0xF0 + c/262144), b(0x80 + c/4096%64), b(0x80 + c/64%64), b(0x80 + c%64)})
}

// plain is the chapter's words for a character's bytes.
func plain(c int) string {
	switch {
	case c < 0x80:
		return form(c, 1)
	case c < 0x800:
		return form(c, 2)
	case c < 0x10000:
		return form(c, 3)
	}
	return form(c, 4)
}

// edges are bytes at both sides of each limit that the forms have; ends are those
// that bear on a character's last bytes.
const (
	edges = "\x00\x1f a\\\x7e\x7f\x80\x81\x8f\x90\x9f\xa0\xbf\xc0\xc1\xc2\xdf\xe0\xe1\xec\xed\xee\xef\xf0\xf1\xf3\xf4\xf5\xf7\xf8\xfb\xfc\xfe\xff"
	ends  = "\x00a\\\x7f\x80\xa2\xbf\xc0\xe2\xff"
)

// shorts are all texts of at most two bytes, and those of three and four that
// begin with a byte above ASCII and go on with edges and ends.
func shorts(yield func(string) bool) {
	if !yield("") {
		return
	}
	for a := range 256 {
		if !yield(string([]byte{byte(a)})) {
			return
		}
		for b := range 256 {
			if !yield(string([]byte{byte(a), byte(b)})) {
				return
			}
		}
	}
	for a := 0x80; a < 256; a++ {
		for _, b := range []byte(edges) {
			for _, c := range []byte(ends) {
				if !yield(string([]byte{byte(a), b, c})) {
					return
				}
				for _, d := range []byte(ends) {
					if !yield(string([]byte{byte(a), b, c, d})) {
						return
					}
				}
			}
		}
	}
}

// right are texts that are UTF-8, the edges of each length among them.
func right() []string {
	return []string{
		"", "a", "\x00", "\x7f", "\\", "abc", "\xc2\x80", "\xdf\xbf", "\xe0\xa0\x80", "\xed\x9f\xbf", "\xee\x80\x80", "\xef\xbf\xbd", "\xef\xbf\xbf",
		"\xf0\x90\x80\x80", "\xf4\x8f\xbf\xbf", "\xef\xbb\xbf", "\xef\xbb\xbfabc", "a\xc2\xa2\xe2\x82\xac\xf0\x90\x8d\x88z", "\xe2\x82\xac\xe2\x82\xac",
		strings.Repeat("\xf0\x9f\x94\x94\xc3\xa4 ", 1<<14),
	}
}

// broken are texts that begin with no character: with bytes that begin none, or
// with characters that end early, that are none, or that stand in more bytes than
// they need.
func broken() []string {
	return []string{
		"\x80", "\xbf", "\xc0", "\xc1", "\xf5", "\xf8", "\xfc", "\xfe", "\xff", "\xc2", "\xe2\x82", "\xf0\x9f\x94", "\xc2a", "\xe2\x82a", "\xe2a\xac", "\xf0\x9f\x94a",
		"\xc0\x80", "\xc1\xbf", "\xe0\x80\x80", "\xe0\x9f\xbf", "\xf0\x80\x80\x80", "\xf0\x8f\xbf\xbf", "\xed\xa0\x80", "\xed\xbf\xbf", "\xed\xa0\x80\xed\xb0\x80",
		"\xf4\x90\x80\x80", "\xf5\x80\x80\x80", "\xf7\xbf\xbf\xbf", "\xf8\x88\x80\x80\x80", "\xfc\x84\x80\x80\x80\x80", "\xc2\xc2\xa2",
	}
}

// wrong are texts that are not UTF-8: those, and what goes wrong further on.
func wrong() []string {
	return append(broken(), "a\x80", "\xe2\x82\xac\xac", "abc\xed\xa0\x80", "\xc2\xa2\xc0\x80z", strings.Repeat("a", 1<<16)+"\xff")
}

// 4.1
func TestBytes(t *testing.T) {
	for _, x := range []struct {
		c    int
		want string
	}{
		{0x20AC, "\xe2\x82\xac"}, {0, "\x00"}, {'a', "a"}, {0x7F, "\x7f"}, {0x80, "\xc2\x80"}, {0x7FF, "\xdf\xbf"}, {0x800, "\xe0\xa0\x80"}, {0xD7FF, "\xed\x9f\xbf"},
		{0xE000, "\xee\x80\x80"}, {0xFFFD, "\xef\xbf\xbd"}, {0xFFFF, "\xef\xbf\xbf"}, {0x10000, "\xf0\x90\x80\x80"}, {lastCharacter, "\xf4\x8f\xbf\xbf"},
	} {
		if s, e := utf.Bytes(x.c); s != x.want || e != api.OK {
			t.Errorf("Bytes(%#x) = %q, %d", x.c, s, e)
		}
	}
	for c := range lastCharacter + 1 {
		if !isCharacter(c) {
			continue
		}
		if s, e := utf.Bytes(c); s != plain(c) || s != string(rune(c)) || e != api.OK {
			t.Fatalf("Bytes(%#x) = %q, %d", c, s, e)
		}
	}
	for _, c := range noCharacters() {
		if s, e := utf.Bytes(c); s != "" || e != api.ErrRange {
			t.Errorf("Bytes(%#x) = %q, %d", c, s, e)
		}
	}
}

// 4.1
func TestFirst(t *testing.T) {
	for _, x := range []struct {
		s       string
		c, long int
	}{
		{"a", 'a', 1}, {"ab", 'a', 1}, {"\x00", 0, 1}, {"\x7f\xff", 127, 1}, {"\xe2\x82\xac", 0x20AC, 3}, {"\xe2\x82\xac\x80", 0x20AC, 3},
		{"\xc2\x80", 0x80, 2}, {"\xef\xbf\xbd", 0xFFFD, 3}, {"\xef\xbb\xbfa", 0xFEFF, 3}, {"\xf4\x8f\xbf\xbf\xbf", lastCharacter, 4},
	} {
		if c, long, e := utf.First(x.s); c != x.c || long != x.long || e != api.OK {
			t.Errorf("First(%q) = %#x, %d, %d", x.s, c, long, e)
		}
	}
	noFirst(t, "")
	for _, s := range broken() {
		noFirst(t, s)
		noFirst(t, s+"a")
	}
	for s := range shorts {
		r, long := utf8.DecodeRuneInString(s)
		if r == utf8.RuneError && long < 2 {
			noFirst(t, s)
			continue
		}
		if c, n, e := utf.First(s); c != int(r) || n != long || e != api.OK {
			t.Errorf("First(%q) = %#x, %d, %d", s, c, n, e)
		}
	}
}

func noFirst(t *testing.T, s string) {
	t.Helper()
	if c, long, e := utf.First(s); c != 0 || long != 0 || e != api.ErrUtf {
		t.Errorf("First(%q) = %#x, %d, %d", s, c, long, e)
	}
}

// 4.1: a number in more bytes than it needs, or one that is no character, is none.
func TestFirstInEachForm(t *testing.T) {
	for long, most := range []int{1: 0x7F, 2: 0x7FF, 3: 0xFFFF, 4: 0x1FFFFF} {
		for c := range most + 1 {
			s := form(c, long)
			switch {
			case long == 0:
			case !isCharacter(c) || s != plain(c):
				noFirst(t, s)
			default:
				if got, n, e := utf.First(s); got != c || n != long || e != api.OK {
					t.Fatalf("First(%q) = %#x, %d, %d", s, got, n, e)
				}
			}
		}
	}
}

// 4.1
func TestCheckAndChars(t *testing.T) {
	for _, x := range []struct {
		s    string
		want []int
	}{
		{"", nil}, {"a", []int{'a'}}, {"a\xe2\x82\xac\x00", []int{'a', 0x20AC, 0}}, {"\xef\xbb\xbf", []int{0xFEFF}}, {"\xef\xbf\xbd", []int{0xFFFD}},
		{"\xc2\x80\xe0\xa0\x80\xf0\x90\x80\x80\x7f", []int{0x80, 0x800, 0x10000, 0x7F}}, {"\xf4\x8f\xbf\xbf\xf4\x8f\xbf\xbf", []int{lastCharacter, lastCharacter}},
	} {
		if l, e := utf.Chars(x.s); !slices.Equal(l, x.want) || e != api.OK {
			t.Errorf("Chars(%q) = %v, %d", x.s, l, e)
		}
	}
	for _, s := range right() {
		reads(t, s)
		reads(t, s+s)
	}
	for _, s := range wrong() {
		noUtf(t, s)
		for _, r := range right() {
			noUtf(t, r+s)
			noUtf(t, s+r)
		}
	}
	for s := range shorts {
		if utf8.ValidString(s) {
			reads(t, s)
		} else {
			noUtf(t, s)
		}
	}
}

func reads(t *testing.T, s string) {
	t.Helper()
	if e := utf.Check(s); e != api.OK {
		t.Errorf("Check(%q) = %d", s, e)
	}
	var want []int
	for _, r := range s {
		want = append(want, int(r))
	}
	if l, e := utf.Chars(s); !slices.Equal(l, want) || e != api.OK {
		t.Errorf("Chars(%q) = %v, %d", s, l, e)
	}
}

func noUtf(t *testing.T, s string) {
	t.Helper()
	if e := utf.Check(s); e != api.ErrUtf {
		t.Errorf("Check(%q) = %d", s, e)
	}
	if l, e := utf.Chars(s); len(l) != 0 || e != api.ErrUtf {
		t.Errorf("Chars(%q) = %v, %d", s, l, e)
	}
}

// 4.3
func TestThereAndBack(t *testing.T) {
	var all strings.Builder
	for c := range lastCharacter + 1 {
		s, e := utf.Bytes(c)
		if e != api.OK {
			continue
		}
		all.WriteString(s)
		if got, long, e := utf.First(s + "\x80"); got != c || long != len(s) || e != api.OK {
			t.Fatalf("%#x: %#x, %d, %d", c, got, long, e)
		}
	}
	for _, s := range append(right(), all.String()) {
		var back strings.Builder
		l, _ := utf.Chars(s)
		for _, c := range l {
			b, _ := utf.Bytes(c)
			back.WriteString(b)
		}
		if back.String() != s {
			t.Errorf("%d bytes: %d bytes", len(s), back.Len())
		}
	}
	if l, e := utf.Chars(all.String()); len(l) != lastCharacter+1-0x800 || e != api.OK {
		t.Error(len(l), e)
	}
}

// 4.3
func TestBehindOneAnother(t *testing.T) {
	for _, a := range right() {
		for _, b := range right() {
			both, e := utf.Chars(a + b)
			first, _ := utf.Chars(a)
			last, _ := utf.Chars(b)
			if e != api.OK || utf.Check(a+b) != api.OK || !slices.Equal(both, append(first, last...)) {
				t.Errorf("%d and %d bytes: %d", len(a), len(b), e)
			}
		}
	}
}
