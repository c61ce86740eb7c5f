package crc_test

import (
	"hash/crc32"
	"math"
	"strings"
	"testing"

	"gong/api"
	"gong/crc"
)

// change says what becomes of each bit of a register; several are one, too.
type change [32]uint32

func (c *change) of(register uint32) uint32 {
	n := uint32(0)
	for i, to := range c {
		if register>>i&1 == 1 {
			n ^= to
		}
	}
	return n
}

// zeros is what long bytes that are 0 make of a register, by the chapter's words for one byte.
func zeros(long int) *change {
	var all, step change
	for i := range step {
		all[i] = 1 << i
		x := uint32(1) << i & 255
		for range 8 {
			fell := x & 1
			x >>= 1
			x ^= fell * 0xEDB88320
		}
		step[i] = uint32(1)<<i>>8 ^ x
	}
	for ; long > 0; long >>= 1 {
		if long&1 == 1 {
			for i := range all {
				all[i] = step.of(all[i])
			}
		}
		twice := step
		for i := range step {
			twice[i] = step.of(step[i])
		}
		step = twice
	}
	return &all
}

// longs are numbers of bytes that may be joined, each power of two and its neighbours among them.
func longs() []int {
	all := []int{0, 3, 5, 300, 1e9, 1e12, 1<<40 - 1, 1 << 40}
	for bits := range 40 {
		all = append(all, 1<<bits-1, 1<<bits, 1<<bits+1)
	}
	return all
}

// 2.1
func TestJoin(t *testing.T) {
	for _, x := range []struct{ a, b string }{
		{"", ""}, {"a", ""}, {"", "a"}, {"a", "b"}, {"1234", "56789"}, {"12345678", "9"}, {"\x00", "\x00"},
		{"\xff\xff\xff\xff", "\xff\xff\xff\xff"}, {"a", strings.Repeat("\x00", 1000)}, {oddBytes(1000, 1), oddBytes(70000, 2)},
	} {
		n, c := crc.Join(plain(x.a), plain(x.b), len(x.b))
		if n != plain(x.a+x.b) || c != api.OK {
			t.Errorf("%d and %d bytes: %#x, %d", len(x.a), len(x.b), n, c)
		}
	}
	for _, s := range texts() {
		n, c := crc.Join(plain("head"), plain(s), len(s))
		if n != plain("head"+s) || c != api.OK {
			t.Errorf("%d bytes: %#x, %d", len(s), n, c)
		}
	}
}

// 2.1: of so many bytes as nobody has: by what they make of the register.
func TestJoinFar(t *testing.T) {
	for _, long := range longs() {
		moved := zeros(long)
		b := moved.of(mostSum) ^ mostSum // the sum of so many zeros
		for _, a := range sums() {
			want := int(moved.of(uint32(a)^mostSum) ^ mostSum)
			if n, c := crc.Join(a, int(b), long); n != want || c != api.OK {
				t.Errorf("Join(%#x, %#x, %d) = %#x, %d", a, b, long, n, c)
			}
		}
	}
	const mega = 1 << 20
	s := strings.Repeat("\x00", mega)
	n, c := crc.Join(0xCBF43926, plain(s), mega)
	if want := int(crc32.Update(0xCBF43926, crc32.IEEETable, []byte(s))); n != want || c != api.OK {
		t.Errorf("%#x, %d", n, c)
	}
}

// 2.1
func TestJoinRefuses(t *testing.T) {
	for _, no := range noSums() {
		for _, x := range [][3]int{{no, 0, 0}, {0, no, 0}, {no, no, 0}, {no, 1, 1}, {1, no, 1 << 40}, {no, no, -1}} {
			if n, c := crc.Join(x[0], x[1], x[2]); n != 0 || c != api.ErrRange {
				t.Errorf("Join(%d, %d, %d) = %d, %d", x[0], x[1], x[2], n, c)
			}
		}
	}
	for _, long := range []int{math.MinInt, -1 << 40, -1, 1<<40 + 1, 1 << 41, math.MaxInt} {
		for _, a := range sums() {
			if n, c := crc.Join(a, 5, long); n != 0 || c != api.ErrRange {
				t.Errorf("Join(%d, 5, %d) = %d, %d", a, long, n, c)
			}
		}
	}
}

// 2.3
func TestCutsDoNotMatter(t *testing.T) {
	for _, s := range []string{"123456789", oddBytes(300, 9), strings.Repeat("\x00", 50), strings.Repeat("\xff", 50)} {
		whole := crc.Sum(s)
		for i := range len(s) + 1 {
			more, c := crc.More(crc.Sum(s[:i]), s[i:])
			joined, e := crc.Join(crc.Sum(s[:i]), crc.Sum(s[i:]), len(s)-i)
			if more != whole || joined != whole || c != api.OK || e != api.OK {
				t.Errorf("%d bytes cut at %d: %#x %d, %#x %d", len(s), i, more, c, joined, e)
			}
		}
		for step := 1; step < 9; step++ {
			more, joined := 0, 0
			for i := 0; i < len(s); i += step {
				part := s[i:min(i+step, len(s))]
				more, _ = crc.More(more, part)
				joined, _ = crc.Join(joined, crc.Sum(part), len(part))
			}
			if more != whole || joined != whole {
				t.Errorf("%d bytes, by %d: %#x, %#x", len(s), step, more, joined)
			}
		}
	}
}

// 2.3: nor does the order in which parts are put together.
func TestJoinsInAnyOrder(t *testing.T) {
	for _, long := range longs() {
		other := (1<<40 - long) / 3
		a, b, c := 0xCBF43926, int(zeros(long).of(mostSum)^mostSum), int(zeros(other).of(mostSum)^mostSum)
		ab, _ := crc.Join(a, b, long)
		first, _ := crc.Join(ab, c, other)
		bc, _ := crc.Join(b, c, other)
		last, _ := crc.Join(a, bc, long+other)
		if first != last {
			t.Errorf("%d and %d bytes: %#x, %#x", long, other, first, last)
		}
	}
}
