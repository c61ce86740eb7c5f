package crc_test

import (
	"hash/crc32"
	"math"
	"strings"
	"testing"

	"gong/api"
	"gong/crc"
)

const mostSum = 1<<32 - 1

// plain is the words of the chapter again, a byte and a bit at a time.
func plain(s string) int {
	register := mostSum
	for i := range len(s) {
		x := (int(s[i]) ^ register) & 255
		for range 8 {
			fell := x & 1
			x >>= 1
			if fell == 1 {
				x ^= 0xEDB88320
			}
		}
		register = register>>8 ^ x
	}
	return register ^ mostSum
}

// odd is a number that no chance makes, but looks so.
func odd(n int) uint64 {
	x := uint64(n+1) * 0x9E3779B97F4A7C15
	x = (x ^ x>>30) * 0xBF58476D1CE4E5B9
	x = (x ^ x>>27) * 0x94D049BB133111EB
	return x ^ x>>31
}

// oddBytes are so many bytes that follow no rule of the sum's.
func oddBytes(long, from int) string {
	room := make([]byte, long)
	for i := range room {
		room[i] = byte(odd(from + i))
	}
	return string(room)
}

// texts are short and long ones, all bytes among them.
func texts() []string {
	all := []string{"", "123456789", strings.Repeat("\x00", 40), strings.Repeat("\xff", 40), strings.Repeat("ab", 1<<15)}
	for b := range 256 {
		all = append(all, string([]byte{byte(b)}))
	}
	for long := range 70 {
		all = append(all, oddBytes(long, long))
	}
	return append(all, oddBytes(api.MaxBytes+1, 7))
}

// sums are numbers that may be sums: the edges, and some between.
func sums() []int {
	all := []int{0, 1, 2, 255, 256, 1<<31 - 1, 1 << 31, 0xEDB88320, 0xCBF43926, mostSum - 1, mostSum}
	for n := range 20 {
		all = append(all, int(odd(n)>>32))
	}
	return all
}

// noSums are numbers that no sum is.
func noSums() []int {
	return []int{math.MinInt, -1 << 32, -2, -1, mostSum + 1, mostSum + 2, 1 << 40, math.MaxInt}
}

// 2.1
func TestSum(t *testing.T) {
	for _, x := range []struct {
		s    string
		want int
	}{
		{"", 0}, {"123456789", 0xCBF43926}, {"a", 0xE8B7BE43}, {"\x00", 0xD202EF8D}, {"\xff", 0xFF000000},
		{"\x00\x00\x00\x00", 0x2144DF1C}, {"\xff\xff\xff\xff", mostSum}, {strings.Repeat("\x00", 32), 0x190A55AD},
		{"The quick brown fox jumps over the lazy dog", 0x414FA339},
	} {
		if n := crc.Sum(x.s); n != x.want {
			t.Errorf("Sum(%q) = %#x", x.s, n)
		}
	}
	for _, s := range texts() {
		n := crc.Sum(s)
		if n != plain(s) || n != int(crc32.ChecksumIEEE([]byte(s))) {
			t.Errorf("Sum of %d bytes, %q.. = %#x", len(s), s[:min(4, len(s))], n)
		}
		if n < 0 || n > mostSum {
			t.Errorf("%#x is no sum", n)
		}
	}
}

// 2.1
func TestMore(t *testing.T) {
	for _, x := range []struct {
		sum  int
		s    string
		want int
	}{
		{0, "", 0}, {mostSum, "", mostSum}, {1, "", 1}, {0, "123456789", 0xCBF43926},
		{plain("1234"), "56789", 0xCBF43926}, {0xCBF43926, "", 0xCBF43926}, {0xE8B7BE43, "b", plain("ab")},
		{mostSum, "\x00", plain("\xff\xff\xff\xff\x00")},
	} {
		if n, c := crc.More(x.sum, x.s); n != x.want || c != api.OK {
			t.Errorf("More(%#x, %q) = %#x, %d", x.sum, x.s, n, c)
		}
	}
	for _, sum := range sums() {
		for _, s := range []string{"", "a", "\x00", "\xff", oddBytes(33, sum)} {
			want := int(crc32.Update(uint32(sum), crc32.IEEETable, []byte(s)))
			if n, c := crc.More(sum, s); n != want || c != api.OK {
				t.Errorf("More(%#x, %q) = %#x, %d", sum, s, n, c)
			}
		}
	}
	for _, sum := range noSums() {
		for _, s := range []string{"", "a", "123456789"} {
			if n, c := crc.More(sum, s); n != 0 || c != api.ErrRange {
				t.Errorf("More(%d, %q) = %d, %d", sum, s, n, c)
			}
		}
	}
}

// 2.2
func TestTag(t *testing.T) {
	for _, x := range []struct{ s, want string }{
		{"", "\x00\x00\x00\x00"}, {"123456789", "123456789\x26\x39\xf4\xcb"}, {"a", "a\x43\xbe\xb7\xe8"},
		{"\xff\xff\xff\xff", "\xff\xff\xff\xff\xff\xff\xff\xff"}, {"\xff", "\xff\x00\x00\x00\xff"},
	} {
		if s := crc.Tag(x.s); s != x.want {
			t.Errorf("Tag(%q) = %q", x.s, s)
		}
	}
	for _, s := range texts() {
		n := plain(s)
		want := s + string([]byte{byte(n), byte(n >> 8), byte(n >> 16), byte(n >> 24)})
		if got := crc.Tag(s); got != want {
			t.Errorf("Tag of %d bytes ends with %q", len(s), got[max(0, len(got)-4):])
		}
		if got, ok := crc.Open(want); got != s || !ok {
			t.Errorf("Open of %d bytes = %d bytes, %t", len(want), len(got), ok)
		}
	}
}

// 2.2
func TestOpen(t *testing.T) {
	for _, x := range []struct {
		s, want string
		ok      bool
	}{
		{"\x00\x00\x00\x00", "", true}, {"123456789\x26\x39\xf4\xcb", "123456789", true}, {"a\x43\xbe\xb7\xe8", "a", true},
		{"\xff\xff\xff\xff\xff\xff\xff\xff", "\xff\xff\xff\xff", true},
		{"", "", false}, {"\x00", "", false}, {"\x00\x00", "", false}, {"\x00\x00\x00", "", false},
		{"\x00\x00\x00\x00\x00", "", false}, {"\xff\xff\xff\xff", "", false}, {"\x00\x00\x00\x01", "", false},
		{"123456789\xcb\xf4\x39\x26", "", false},  // the highest byte first
		{"\x26\x39\xf4\xcb123456789", "", false},  // ahead of it
		{"123456789\xd9\xc6\x0b\x34", "", false},  // not turned
		{"123456789\x26\x39\xf4", "", false},      // cut short
		{"23456789\x26\x39\xf4\xcb", "", false},   // its beginning lost
		{"123456789\x26\x39\xf4\xcb!", "", false}, // something behind it
		{"\x00\x00\x00\x00\x00\x00\x00\x00", "", false},
	} {
		if s, ok := crc.Open(x.s); s != x.want || ok != x.ok {
			t.Errorf("Open(%q) = %q, %t", x.s, s, ok)
		}
	}
	twice := crc.Tag(crc.Tag("ab"))
	if once, ok := crc.Open(twice); once != crc.Tag("ab") || !ok {
		t.Errorf("%q, %t", once, ok)
	}
}

// turn is s with the bits of mask turned, from that bit on. A byte's lowest
// bit is its first: in that order they come into the register.
func turn(s string, from int, mask uint32) (string, bool) {
	room := []byte(s)
	for i := range 32 {
		if mask>>i&1 == 0 {
			continue
		}
		at := from + i
		if at >= 8*len(room) {
			return "", false
		}
		room[at/8] ^= 1 << (at % 8)
	}
	return string(room), true
}

func notFound(t *testing.T, s string, from int, mask uint32) {
	t.Helper()
	turned, ok := turn(s, from, mask)
	if !ok {
		return
	}
	if crc.Sum(turned) == crc.Sum(s) {
		t.Errorf("%d bytes, turned by %#x from bit %d on: the same sum", len(s), mask, from)
	}
	if got, ok := crc.Open(turned); got != "" || ok {
		t.Errorf("%d bytes, turned by %#x from bit %d on: opened", len(s), mask, from)
	}
}

// 2.3
func TestOneTurnedBitIsFound(t *testing.T) {
	for _, long := range []int{0, 1, 2, 3, 4, 5, 63, 64, 300, 1000} {
		s := crc.Tag(oddBytes(long, long))
		for from := range 8 * len(s) {
			notFound(t, s, from, 1)
		}
	}
	s := crc.Tag(oddBytes(api.MaxBytes, 3))
	for _, from := range []int{0, 7, 8, 1 << 18, 8*api.MaxBytes - 1, 8 * api.MaxBytes, 8*len(s) - 1} {
		notFound(t, s, from, 1)
	}
}

// 2.3: also those that lie partly in the sum, which follows the bytes.
func TestTurnedBitsWithin32AreFound(t *testing.T) {
	masks := []uint32{3, 0xff, 0xffff, mostSum, 1<<31 | 1, 0xEDB88320, 0xDB710641, 0x04C11DB7, 0x82608EDB}
	for width := 2; width <= 32; width++ {
		for n := range 8 {
			inner := uint32(odd(width*8+n)) & (1<<width - 1)
			masks = append(masks, inner|1|1<<(width-1))
		}
	}
	for _, long := range []int{0, 1, 4, 5, 60} {
		s := crc.Tag(oddBytes(long, 50+long))
		for from := range 8 * len(s) {
			for _, mask := range masks {
				notFound(t, s, from, mask)
			}
		}
	}
	s := crc.Tag("ab")
	for from := range 8 * len(s) {
		for mask := range uint32(1 << 12) {
			if mask > 0 {
				notFound(t, s, from, mask)
			}
		}
	}
}
