package frame_test

import (
	"math"
	"slices"
	"strings"
	"testing"
	"unsafe"

	"gong/api"
	"gong/frame"
)

// oddBytes are so many bytes that no chance makes, but look so.
func oddBytes(long, from int) string {
	room := make([]byte, long)
	for i := range room {
		x := uint64(from+i+1) * 0x9E3779B97F4A7C15
		x = (x ^ x>>30) * 0xBF58476D1CE4E5B9
		x = (x ^ x>>27) * 0x94D049BB133111EB
		room[i] = byte(x ^ x>>31)
	}
	return string(room)
}

// P1, R5: every call ends at all arguments; what is refused answers nothing, but
// messages that were whole ahead of what is bad.
func TestAllArguments(t *testing.T) {
	for _, most := range []int{math.MinInt, math.MinInt + 1, -1 << 32, -1, 0, 1, 65535, 65536, 1 << 32, math.MaxInt} {
		if f, e := frame.New(most); (f == nil) != (e != api.OK) || f == nil && e != api.ErrRange {
			t.Error(most, f, e)
		}
	}
	const long = 1 << 16
	texts := []string{"", strings.Repeat("1", long), strings.Repeat(" ", long), strings.Repeat("0", long), strings.Repeat("\xff", long), strings.Repeat("1 ", 3*long), strings.Repeat("1 a", long/16), "65535 " + strings.Repeat("z", 1<<20), "65535 " + strings.Repeat("1", 65535) + strings.Repeat("1 a", 9)}
	for i := range 300 {
		texts = append(texts, oddBytes(i, 1000*i), "9 "+oddBytes(9, i)+oddBytes(9, 3*i))
	}
	for _, s := range texts {
		if framed, e := frame.Frame(s); (framed == "") != (e != api.OK) {
			t.Errorf("%.90q: %.90q, %d", s, framed, e)
		}
		for _, most := range []int{1, 9, 10, 65535} {
			for _, ahead := range []string{"", "1", "9 ", "1 a", "0"} {
				comes(t, most, ahead, s, "", s, "1 a")
			}
		}
	}
}

// R1, 12.1: what has no bytes is not too long; what is refused is the one thing
// that is wrong with it.
func TestFirstWrongThing(t *testing.T) {
	for _, x := range []struct {
		message string
		want    api.Code
	}{{"", api.ErrRange}, {"x", api.OK}, {strings.Repeat("x", 65535), api.OK}, {strings.Repeat("x", 65536), api.ErrLong}} {
		if s, e := frame.Frame(x.message); e != x.want || (s == "") != (e != api.OK) {
			t.Errorf("%d bytes: %.90q, %d", len(x.message), s, e)
		}
	}
}

// R2: what the chapter does not refuse may be: any bytes as a message, frames
// within it, chunks without a byte.
func TestWhatIsNotRefused(t *testing.T) {
	for b := range 256 {
		for _, m := range []string{string([]byte{byte(b)}), "1 " + string([]byte{byte(b), 0}), strings.Repeat(string([]byte{byte(b)}), 300)} {
			s, e := frame.Frame(m)
			if e != api.OK {
				t.Errorf("%.90q: %d", m, e)
			}
			comes(t, 300, s)
			comes(t, 300, "", s[:1], "", s[1:], "", s+s, "")
		}
	}
}

// R3: where there are no messages, the list has no element, be it nil or empty.
func TestNothing(t *testing.T) {
	f := fresh(t, 9)
	for _, c := range []string{"", "1", " "} {
		if l, e := f.Feed(c); len(l) != 0 || e != api.OK {
			t.Errorf("%q: %q, %d", c, l, e)
		}
	}
}

// R6: a length is written without a 0 ahead, and must stand so.
func TestNumbersAsText(t *testing.T) {
	for _, long := range []int{1, 9, 10, 11, 99, 100, 101, 1000, 10000, 65535} {
		s, e := frame.Frame(strings.Repeat("x", long))
		if e != api.OK || s[0] == '0' {
			t.Errorf("%d: %.9q, %d", long, s, e)
		}
		comes(t, 65535, s)
		comes(t, 65535, "0"+s)
		comes(t, 65535, "+"+s)
		comes(t, 65535, " "+s)
	}
}

// overlap tells whether a and b share any bytes.
func overlap(a, b string) bool {
	if a == "" || b == "" {
		return false
	}
	x, y := uintptr(unsafe.Pointer(unsafe.StringData(a))), uintptr(unsafe.Pointer(unsafe.StringData(b)))
	return x < y+uintptr(len(b)) && y < x+uintptr(len(a))
}

// R4: a chunk is not kept: no message shares bytes with one, nor with another
// message, nor what a framer tells later with what it told before.
func TestAnswersAreTheirOwn(t *testing.T) {
	f := fresh(t, 100)
	chunks := []string{"3 abc5 defgh4 ij", "kl20 0123456789", "abcdefghij2 mn2 op9 qr", "stuvwxy"}
	var all []string
	for i, c := range chunks {
		chunks[i] = strings.Clone(c)
		l, e := f.Feed(chunks[i])
		if e != api.OK {
			t.Fatal(e)
		}
		all = append(all, l...)
		l = append(l, "x")
		l = l[:cap(l)]
		for k := range l {
			l[k] = "turned"
		}
	}
	if !slices.Equal(all, []string{"abc", "defgh", "ijkl", "0123456789abcdefghij", "mn", "op", "qrstuvwxy"}) {
		t.Errorf("%q", all)
	}
	for i, m := range all {
		for k, c := range append(chunks, all...) {
			if k != len(chunks)+i && overlap(m, c) {
				t.Errorf("%q shares with %q", m, c)
			}
		}
	}
	message := strings.Clone("message")
	if s, _ := frame.Frame(message); overlap(s, message) {
		t.Error("a frame shares with its message")
	}
}

// R4, R7: framers of the same stream tell the same, and nothing of one another; a
// question changes nothing.
func TestFramersAreTheirOwn(t *testing.T) {
	a, b, c := fresh(t, 9), fresh(t, 9), fresh(t, 9)
	c.Feed("0")
	for _, x := range []string{"3 a", "bc2", " x", "y1 z9 123456", "789", "9", "x", "1 a"} {
		l, e := a.Feed(x)
		for range 3 {
			a.Dead()
			a.Dropped()
			a.Held()
			a.Fork().Feed(x)
		}
		m, d := b.Feed(x)
		if !slices.Equal(l, m) || e != d {
			t.Errorf("%q: %q, %d; %q, %d", x, l, e, m, d)
		}
		is(t, a, b.Dead(), b.Dropped(), b.Held())
	}
	is(t, a, true, 1, 0)
	is(t, c, true, 0, 0)
	for range 3 {
		if s, e := frame.Frame("abc"); s != "3 abc" || e != api.OK {
			t.Error(s, e)
		}
	}
}
