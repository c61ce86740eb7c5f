package frame_test

import (
	"slices"
	"strconv"
	"strings"
	"testing"

	"gong/api"
	"gong/frame"
)

// walk goes through all texts of at most so many of the symbols.
func walk(most int, see func(s string), symbols ...string) {
	var on func(s string, left int)
	on = func(s string, left int) {
		see(s)
		for _, x := range symbols {
			if left > 0 {
				on(s+x, left-1)
			}
		}
	}
	on("", most)
}

// cut is s in chunks: behind its byte i one ends, if bit i of where is set.
func cut(s string, where int) []string {
	var chunks []string
	at := 0
	for i := range len(s) {
		if where>>i&1 == 1 {
			chunks = append(chunks, s[at:i+1])
			at = i + 1
		}
	}
	return append(chunks, s[at:])
}

// 12.2, 12.4: all short streams, whole, byte by byte, and behind a frame.
func TestShortStreams(t *testing.T) {
	for _, most := range []int{1, 2, 10, 12, 65535} {
		walk(6, func(s string) {
			comes(t, most, s, "1", " a")
			comes(t, most, strings.Split(s, "")...)
			comes(t, most, "1 a"+s)
		}, "0", "1", "2", " ", "a")
	}
}

// 12.4: all cuts of all short streams.
func TestCutsOfShortStreams(t *testing.T) {
	walk(6, func(s string) {
		for where := range 1 << len(s) {
			comes(t, 2, cut(s, where)...)
		}
	}, "1", "2", " ", "0")
}

// 12.4: all cuts of some streams, into chunks that may be empty, too: messages, and
// whether it is dead, are the same; whatever is bad, what came ahead of it is told.
func TestCuts(t *testing.T) {
	for _, s := range []string{"3 abc2 xy5 ", "10 0123456789", "1 11 12 121 1", "1 a1 b1 c1 ", "1 a2 bc03 d", "2 ab11 c", "12 ab1 cde1 f", "1  2   1 a x"} {
		want, behind, bad := plainFrames(10, s)
		for where := range 1 << len(s) {
			f := fresh(t, 10)
			var all []string
			ended := api.OK
			for _, c := range cut(s, where) {
				l, e := f.Feed(c)
				all = append(all, l...)
				ended = max(ended, e)
				if e == api.OK {
					l, e = f.Feed("")
					all = append(all, l...)
					ended = max(ended, e)
				}
			}
			if !slices.Equal(all, want) || f.Dead() != bad || f.Held() != len(behind) || ended == api.ErrFrame != bad {
				t.Fatalf("%q, cut %b: %q, %v, %d, %d", s, where, all, f.Dead(), f.Held(), ended)
			}
			comes(t, 10, cut(s, where)...)
		}
	}
}

// 12.4: what is framed is told again, of each length.
func TestThereAndBack(t *testing.T) {
	x := oddBytes(65535, 7)
	f := fresh(t, 65535)
	for long := 1; long <= 65535; long++ {
		if long > 2000 && long < 65000 && long%97 != 0 && long%1000 > 1 {
			continue
		}
		s, e := frame.Frame(x[:long])
		if e != api.OK || s != strconv.Itoa(long)+" "+x[:long] {
			t.Fatal(long, e)
		}
		l, e := f.Feed(s)
		if len(l) != 1 || l[0] != x[:long] || e != api.OK {
			t.Fatal(long, len(l), e)
		}
		is(t, f, false, 0, 0)
	}
}

// 12.4: a long stream of many messages, in chunks of many lengths.
func TestLongStream(t *testing.T) {
	var stream strings.Builder
	var want []string
	for i := range 900 {
		m := oddBytes(1+i*i*i%4096, i)
		s, e := frame.Frame(m)
		if e != api.OK {
			t.Fatal(e)
		}
		stream.WriteString(s)
		want = append(want, m)
	}
	s := stream.String()
	for _, long := range []int{1, 2, 3, 7, 100, 1000, 4096, 4102, 65536, len(s)} {
		f := fresh(t, 4096)
		var all []string
		for at := 0; at < len(s); at += long {
			l, e := f.Feed(s[at:min(at+long, len(s))])
			if e != api.OK {
				t.Fatal(long, e)
			}
			all = append(all, l...)
		}
		if !slices.Equal(all, want) {
			t.Error(long, len(all))
		}
		is(t, f, false, 0, 0)
	}
}
