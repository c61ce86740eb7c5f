package utf_test

import (
	"math"
	"slices"
	"strings"
	"testing"

	"gong/api"
	"gong/utf"
)

// oddBytes are so many bytes that no chance makes, but look so.
func oddBytes(long, from int) string {
	room := make([]byte, long)
	for i := range room {
		x := uint64(from+i+1) * 0x9E3779B97F4A7C15
		x = (x ^ x>>30) * 0xBF58476D1CE4E5B9
		x = (x ^ x>>27) * 0x94D049BB133111EB
		room[i] = byte(x ^ x>>31)
	}
	return string(room)
}

// texts are UTF-8, whole and cut within, and what is none.
func texts() []string {
	all := append(right(), wrong()...)
	all = append(all, strings.Repeat("\xff", 1<<16), strings.Repeat("\xf0\x9f\x94", 1<<14), oddBytes(1<<16, 0))
	for i := range 200 {
		all = append(all, oddBytes(i%9, 1000*i))
	}
	s := "a\xc2\xa2\xe2\x82\xac\xf0\x90\x8d\x88\\\x00\xed\xa0\x80"
	for i := range len(s) + 1 {
		all = append(all, s[:i], s[i:])
	}
	return all
}

// P1, R5: every call ends at all arguments; what is refused answers nothing.
func TestAllArguments(t *testing.T) {
	numbers := append(noCharacters(), 0, 1, 2, 3, 4, 127, 128, 1024, lastCharacter)
	for _, c := range numbers {
		if s, e := utf.Bytes(c); isCharacter(c) != (e == api.OK) || (s == "") != (e != api.OK) {
			t.Errorf("Bytes(%d) = %q, %d", c, s, e)
		}
	}
	for _, s := range texts() {
		c, long, e := utf.First(s)
		if e != api.OK && (c != 0 || long != 0) || e == api.OK && (!isCharacter(c) || s[:long] != plain(c)) {
			t.Errorf("First(%q) = %#x, %d, %d", s, c, long, e)
		}
		e = utf.Check(s)
		l, same := utf.Chars(s)
		if e != same || e != api.OK && (e != api.ErrUtf || len(l) != 0) {
			t.Errorf("%q: %d, %d, %v", s, e, same, l)
		}
		for _, most := range numbers[len(numbers)-9:] {
			got, same := utf.Cut(s, most)
			if e != same || e != api.OK && got != "" || len(got) > most || !strings.HasPrefix(s, got) {
				t.Errorf("Cut(%q, %d) = %q, %d", s, most, got, same)
			}
		}
		rest, ok := utf.Mark(s)
		if ok && "\xef\xbb\xbf"+rest != s || !ok && rest != s {
			t.Errorf("Mark(%q) = %q, %t", s, rest, ok)
		}
		if len(utf.Shown(s)) < len(s) {
			t.Errorf("Shown(%q) = %q", s, utf.Shown(s))
		}
	}
}

// R1: where several errors apply, the one that the chapter names first.
func TestFirstError(t *testing.T) {
	for _, s := range wrong() {
		noCut(t, s, -1, api.ErrRange)
		noCut(t, s, math.MinInt, api.ErrRange)
	}
}

// R2: what the chapter does not refuse may be: controls, marks within a text,
// and what UTF-8 has that no text should.
func TestWhatIsNotRefused(t *testing.T) {
	for _, s := range []string{"\x00", "\x1b[0m", "\x7f", "a\xef\xbb\xbfb", "\xef\xbf\xbe", "\xef\xbf\xbf", "\xef\xb7\x90", "\xf0\x9f\xbf\xbf", "\xee\x80\x80", "\xcc\x81"} {
		reads(t, s)
		if got, e := utf.Cut(s, len(s)); got != s || e != api.OK {
			t.Errorf("%q: %q, %d", s, got, e)
		}
	}
}

// R3: no text, no characters; it is right.
func TestNothing(t *testing.T) {
	if l, e := utf.Chars(""); len(l) != 0 || e != api.OK || utf.Check("") != api.OK || utf.Shown("") != "" {
		t.Error(l, e)
	}
}

// R4, R7: an answer is its own: it stays, spare room too, whatever is called later.
func TestAnswersAreTheirOwn(t *testing.T) {
	const s = "a\xe2\x82\xac\xf0\x9f\x94\x94"
	want := []int{'a', 0x20AC, 0x1F514}
	first, _ := utf.Chars(s)
	last, _ := utf.Chars(s)
	for i := range last[:cap(last)] {
		last[:cap(last)][i] = -1
	}
	if !slices.Equal(first, want) {
		t.Error(first)
	}
	for range 2 {
		b, _ := utf.Bytes(0x20AC)
		shown := utf.Shown("\x00" + s)
		cut, _ := utf.Cut(s, 4)
		rest, _ := utf.Mark("\xef\xbb\xbf" + s)
		utf.Bytes('x')
		utf.Shown("\xff")
		utf.Cut("no", 1)
		if l, e := utf.Chars(s); !slices.Equal(l, want) || e != api.OK {
			t.Error(l, e)
		}
		if b != "\xe2\x82\xac" || shown != `\x00`+s || cut != s[:4] || rest != s {
			t.Errorf("%q %q %q %q", b, shown, cut, rest)
		}
	}
}
