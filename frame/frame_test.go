package frame_test

import (
	"math"
	"regexp"
	"slices"
	"strconv"
	"strings"
	"testing"

	"gong/api"
	"gong/frame"
)

var lengthForm = regexp.MustCompile(`\A[1-9][0-9]*\z`)

// plainFrames is the chapter's words for a stream: the messages of its whole frames,
// what stands behind the last of them, and whether that can begin no frame.
func plainFrames(most int, s string) (messages []string, behind string, bad bool) {
	for s != "" {
		digits, rest, ended := strings.Cut(s, " ")
		n, e := strconv.Atoi(digits)
		if !lengthForm.MatchString(digits) || e != nil || n > most {
			return messages, "", true
		}
		if !ended || len(rest) < n {
			break
		}
		messages = append(messages, rest[:n])
		s = rest[n:]
	}
	return messages, s, false
}

func fresh(t *testing.T, most int) *frame.Framer {
	t.Helper()
	f, e := frame.New(most)
	if f == nil || e != api.OK {
		t.Fatalf("New(%d): %d", most, e)
	}
	return f
}

// is holds what a framer tells of itself to what it should.
func is(t *testing.T, f *frame.Framer, dead bool, dropped, held int) {
	t.Helper()
	if f.Dead() != dead || f.Dropped() != dropped || f.Held() != held {
		t.Fatalf("dead %v, dropped %d, held %d; and not %v, %d, %d", f.Dead(), f.Dropped(), f.Held(), dead, dropped, held)
	}
}

// road is a stream that has come so far, and the framer that it came to.
type road struct {
	most    int
	stream  string
	dead    bool
	dropped int
	f       *frame.Framer
}

// feed holds what a chunk makes to the chapter's words for the streams ahead of it
// and behind it.
func (r *road) feed(t *testing.T, chunk string) {
	t.Helper()
	if r.dead {
		l, e := r.f.Feed(chunk)
		r.dropped++
		if len(l) != 0 || e != api.ErrFrame {
			t.Fatalf("%.90q is dead: %d messages, %d", r.stream, len(l), e)
		}
		is(t, r.f, true, r.dropped, 0)
		return
	}
	before, _, _ := plainFrames(r.most, r.stream)
	r.stream += chunk
	all, behind, bad := plainFrames(r.most, r.stream)
	want := api.OK
	if bad {
		r.dead, want = true, api.ErrFrame
	}
	l, e := r.f.Feed(chunk)
	if !slices.Equal(l, all[len(before):]) || e != want {
		t.Fatalf("most %d, %.90q, behind %.90q: %.90q, %d; and not %.90q, %d", r.most, chunk, r.stream, l, e, all[len(before):], want)
	}
	is(t, r.f, bad, 0, len(behind))
}

// comes holds a stream that comes in these chunks to the chapter's words.
func comes(t *testing.T, most int, chunks ...string) {
	t.Helper()
	r := road{most: most, f: fresh(t, most)}
	for _, c := range chunks {
		r.feed(t, c)
	}
}

// 12.1
func TestNew(t *testing.T) {
	for _, most := range []int{1, 2, 9, 10, 999, 4096, 1 << 15, 65534, 65535} {
		is(t, fresh(t, most), false, 0, 0)
	}
	for _, most := range []int{math.MinInt, -65535, -2, -1, 0, 65536, 65537, 1 << 17, 1 << 32, 1<<32 + 1, math.MaxInt} {
		if f, e := frame.New(most); f != nil || e != api.ErrRange {
			t.Errorf("New(%d) = %v, %d", most, f, e)
		}
	}
}

// 12.1
func TestFrame(t *testing.T) {
	x := strings.Repeat("\xff0", 1<<16)
	for _, c := range []struct{ message, want string }{
		{"a", "1 a"}, {" ", "1  "}, {"0", "1 0"}, {"\x00", "1 \x00"}, {"\xff", "1 \xff"}, {"\n", "1 \n"}, {"ab", "2 ab"}, {"1 a", "3 1 a"}, {"\xe2\x82\xac", "3 \xe2\x82\xac"}, {"123456789", "9 123456789"}, {"1234567890", "10 1234567890"},
		{x[:99], "99 " + x[:99]}, {x[:100], "100 " + x[:100]}, {x[:999], "999 " + x[:999]}, {x[:1000], "1000 " + x[:1000]}, {x[:9999], "9999 " + x[:9999]}, {x[:10000], "10000 " + x[:10000]}, {x[:65534], "65534 " + x[:65534]}, {x[:65535], "65535 " + x[:65535]},
	} {
		if s, e := frame.Frame(c.message); s != c.want || e != api.OK {
			t.Errorf("%.90q: %.90q, %d", c.message, s, e)
		}
	}
	for _, c := range []struct {
		message string
		want    api.Code
	}{{"", api.ErrRange}, {x[:65536], api.ErrLong}, {x[:65537], api.ErrLong}, {x, api.ErrLong}, {strings.Repeat(" ", 1<<20), api.ErrLong}} {
		if s, e := frame.Frame(c.message); s != "" || e != c.want {
			t.Errorf("%d bytes: %.90q, %d", len(c.message), s, e)
		}
	}
}

// 12.2, the chapter's example: what a chunk makes whole, and what is held of it.
func TestFeed(t *testing.T) {
	f := fresh(t, 100)
	for _, x := range []struct {
		chunk string
		want  []string
		held  int
	}{
		{"3 abc2 x", []string{"abc"}, 3}, {"y5", []string{"xy"}, 1}, {"", nil, 1}, {" ", nil, 2}, {"1 a3", nil, 6}, {" 1", []string{"1 a3 "}, 1},
		{"0 ", nil, 3}, {"", nil, 3}, {"123456789", nil, 12}, {"01 a", []string{"1234567890", "a"}, 0}, {"", nil, 0}, {"1 11  1 \x00100", []string{"1", " ", "\x00"}, 3},
	} {
		l, e := f.Feed(x.chunk)
		if !slices.Equal(l, x.want) || e != api.OK {
			t.Errorf("%q: %q, %d", x.chunk, l, e)
		}
		is(t, f, false, 0, x.held)
	}
	for _, x := range []struct {
		chunks []string
		want   []string
	}{
		{[]string{"1 a1 b1 c"}, []string{"a", "b", "c"}}, {[]string{"1 11 11 1"}, []string{"1", "1", "1"}}, {[]string{"1  1  "}, []string{" ", " "}}, {[]string{"1", " ", "\n"}, []string{"\n"}}, {[]string{"", "", "1 a", ""}, []string{"a"}},
		{[]string{"1", "0 123456", "7890"}, []string{"1234567890"}}, {[]string{"100", " " + strings.Repeat("0", 100)}, []string{strings.Repeat("0", 100)}}, {[]string{"3 \x00\xff\x80"}, []string{"\x00\xff\x80"}}, {[]string{"4 1 a2", "2 xx"}, []string{"1 a2", "xx"}},
	} {
		f := fresh(t, 100)
		var all []string
		for _, c := range x.chunks {
			l, e := f.Feed(c)
			if e != api.OK {
				t.Errorf("%q: %d", c, e)
			}
			all = append(all, l...)
		}
		if !slices.Equal(all, x.want) {
			t.Errorf("%q: %q", x.chunks, all)
		}
		is(t, f, false, 0, 0)
		comes(t, 100, x.chunks...)
	}
}

// 12.2: a stream is bad from the byte on with which it can begin no frame; what
// came whole ahead of that is told beside the error; a chunk is dropped only if the
// stream was dead when it came.
func TestBad(t *testing.T) {
	for _, x := range []struct {
		most int
		good string
		bad  string
		want []string
	}{
		{9, "", "0", nil}, {9, "", " ", nil}, {9, "", "a", nil}, {9, "", "/", nil}, {9, "", ":", nil}, {9, "", "-", nil}, {9, "", "+", nil}, {9, "", "<", nil}, {9, "", "\x00", nil}, {9, "", "\n", nil}, {9, "", "\xff", nil}, {9, "", "\xb1", nil},
		{9, "1", "a", nil}, {9, "1", "\t", nil}, {9, "1", "\n", nil}, {9, "1", "\x00", nil}, {9, "1", "/", nil}, {9, "1", ":", nil}, {9, "1", ".", nil}, {9, "1", "\xff", nil}, {99, "12", "a", nil}, {99, "12", "\r", nil},
		{9, "1", "0", nil}, {9, "9", "9", nil}, {10, "1", "1", nil}, {10, "10", "0", nil}, {10, "", "0", nil}, {10, "2", "0", nil}, {1, "", "2", nil}, {1, "1", "0", nil}, {5, "", "6", nil}, {12, "1", "3", nil},
		{99, "99", "0", nil}, {100, "10", "1", nil}, {100, "100", "0", nil}, {65535, "6553", "6", nil}, {65535, "6554", "0", nil}, {65535, "65535", "0", nil}, {65535, "10000", "0", nil}, {4096, "409", "7", nil},
		{9, "1 a", "0", nil}, {9, "1 a", " ", nil}, {9, "1 a", "\n", nil}, {9, "1 a2", ":", nil}, {9, "1 a2 b", "b0", []string{"bb"}}, {9, "1", " ax", []string{"a"}}, {9, "", "1 a1 b1 c01 d", []string{"a", "b", "c"}}, {9, "1 a", "1 b10 1234567890", []string{"b"}}, {9, "", "1 aa1 b", []string{"a"}}, {9, "2 ", "ab2x", []string{"ab"}},
	} {
		f := fresh(t, x.most)
		if _, e := f.Feed(x.good); e != api.OK || f.Dead() || f.Dropped() != 0 {
			t.Errorf("%q: %d", x.good, e)
		}
		l, e := f.Feed(x.bad)
		if !slices.Equal(l, x.want) || e != api.ErrFrame {
			t.Errorf("%q, %q: %q, %d", x.good, x.bad, l, e)
		}
		is(t, f, true, 0, 0)
		for i, c := range []string{"1 a", "", " ", "0", x.good, "9"} {
			if l, e := f.Feed(c); len(l) != 0 || e != api.ErrFrame {
				t.Errorf("%q, %q, %q: %q, %d", x.good, x.bad, c, l, e)
			}
			is(t, f, true, i+1, 0)
		}
		comes(t, x.most, x.good, x.bad, "1 a", "")
		comes(t, x.most, x.good+x.bad, "1 a", "")
	}
}

// 12.2: each byte in each place of a frame.
func TestEachByte(t *testing.T) {
	for b := range 256 {
		c := string([]byte{byte(b)})
		for _, ahead := range []string{"", "1", "10", "2 ", "2 a", "2 ab", "2 ab1", "2 ab10", "2 ab1 ", "2 ab1 c"} {
			for _, most := range []int{2, 9, 10, 11, 99, 100, 105, 65535} {
				comes(t, most, ahead, c, "a", "1 a", "")
				comes(t, most, ahead+c, "a1 ", "b")
				comes(t, most, ahead+c+"a1 b")
			}
		}
	}
}

// 12.2: a message may have Most bytes; with the digit by which it has more, the
// stream is bad.
func TestMost(t *testing.T) {
	for most := 1; most <= 65535; most++ {
		f := fresh(t, most)
		digits := strconv.Itoa(most)
		if l, e := f.Feed(digits + " "); len(l) != 0 || e != api.OK {
			t.Fatal(most, l, e)
		}
		is(t, f, false, 0, len(digits)+1)
		f = fresh(t, most)
		digits = strconv.Itoa(most + 1)
		last := len(digits) - 1
		if l, e := f.Feed(digits[:last]); len(l) != 0 || e != api.OK {
			t.Fatal(most, l, e)
		}
		is(t, f, false, 0, last)
		if l, e := f.Feed(digits[last:]); len(l) != 0 || e != api.ErrFrame {
			t.Fatal(most, l, e)
		}
		is(t, f, true, 0, 0)
	}
	for _, most := range []int{1, 2, 9, 10, 99, 100, 4096, 65534, 65535} {
		message := strings.Repeat("7", most)
		s, _ := frame.Frame(message)
		comes(t, most, s+s, s, s[:1], s[1:len(s)-1], s[len(s)-1:])
	}
	for _, digits := range []string{"99999", "65536", "100000", "4294967297", "18446744073709551617", strings.Repeat("1", 1000)} {
		comes(t, 65535, digits+" a", "1 a")
	}
}

// 12.3: a fork has come as far, and neither hangs on what comes to the other.
func TestFork(t *testing.T) {
	const s = "1 a12 abcdefghijkl3 xyz0 1 "
	one, two := "kl1 m10 ", "\x00\x01\x02\x03\x04\x05\x06\x07\x08\x09\x0a\x0b1 z"
	for i := range len(s) + 1 {
		for _, ahead := range [][]string{{s[:i]}, strings.Split(s[:i], "")} {
			a := road{most: 12, f: fresh(t, 12)}
			for _, c := range ahead {
				a.feed(t, c)
			}
			b := a
			b.f = a.f.Fork()
			is(t, b.f, a.f.Dead(), a.f.Dropped(), a.f.Held())
			c := b
			c.f = b.f.Fork()
			for k := range max(len(one), len(two)) {
				a.feed(t, one[min(k, len(one)):min(k+1, len(one))])
				b.feed(t, two[min(k, len(two)):min(k+1, len(two))])
			}
			c.feed(t, s[i:])
			d := c
			d.f = c.f.Fork()
			d.feed(t, "0")
			d.feed(t, "0")
			c.feed(t, "")
			is(t, c.f, c.dead, c.dropped, c.f.Held())
		}
	}
	f := fresh(t, 1)
	f.Feed("11")
	f.Feed("1")
	g := f.Fork()
	f.Feed("1")
	is(t, f, true, 2, 0)
	is(t, g, true, 1, 0)
	if l, e := g.Feed("1 a"); len(l) != 0 || e != api.ErrFrame {
		t.Error(l, e)
	}
	is(t, f, true, 2, 0)
	is(t, g, true, 2, 0)
}

// 12.3: a fork has the same most.
func TestForkOfMost(t *testing.T) {
	for _, most := range []int{1, 9, 10, 65535} {
		f := road{most: most, f: fresh(t, most).Fork()}
		message := strings.Repeat("m", most)
		s, _ := frame.Frame(message)
		f.feed(t, s)
		f.feed(t, strconv.Itoa(most+1))
		f.feed(t, "1 a")
	}
}
