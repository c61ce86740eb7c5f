package ber_test

import (
	"math"
	"math/big"
	"strings"
	"testing"

	"gong/api"
	"gong/ber"
)

// spare tells whether the first nine bits of body are all the same.
func spare(body string) bool {
	if len(body) < 2 {
		return false
	}
	nine := int(body[0])<<1 | int(body[1])>>7
	return nine == 0 || nine == 1<<9-1
}

// plainNumber is the chapter's words for what number a body tells, of however many bytes.
func plainNumber(body string) *big.Int {
	n := new(big.Int).SetBytes([]byte(body))
	if body != "" && body[0] >= 128 {
		n.Sub(n, new(big.Int).Lsh(big.NewInt(1), uint(8*len(body))))
	}
	return n
}

// numbers are those at the edges of how many bytes they need, and some between.
func numbers() []int {
	all := []int{0, 5, 300, -300, 1234567890123456789, math.MaxInt, math.MaxInt - 1, math.MinInt, math.MinInt + 1}
	for bits := range 63 {
		for d := -2; d <= 2; d++ {
			all = append(all, 1<<bits+d, -1<<bits+d, 3<<bits+d)
		}
	}
	for n := -70000; n <= 70000; n += 7 {
		all = append(all, n)
	}
	return all
}

// bodies are those of numbers, and of none, the edges among them.
func bodies() []string {
	all := short("\x00\x01\x7f\x80\x81\xfe\xff", 5)
	for _, tail := range []string{"", "\x00", "\x7f", "\x80", "\xff", "\x00\x00", "\x7f\xff", "\x80\x00", "\xff\xff"} {
		for _, b := range []string{"\x00", "\x01", "\x5a", "\x7f", "\x80", "\xa5", "\xff"} {
			for _, first := range []string{"", "\x00", "\x01", "\x7f", "\x80", "\xff"} {
				for long := range 11 {
					all = append(all, first+strings.Repeat(b, long)+tail)
				}
			}
		}
	}
	for a := range 256 {
		for b := range 256 {
			all = append(all, string([]byte{byte(a), byte(b)}))
		}
	}
	return append(all, strings.Repeat("\x01", 1<<16))
}

// 5.4
func TestNumber(t *testing.T) {
	for _, x := range []struct {
		body string
		n    int
	}{
		{"\x05", 5}, {"\x00", 0}, {"\xff", -1}, {"\x7f", 127}, {"\x80", -128}, {"\x00\x80", 128}, {"\xff\x7f", -129}, {"\x01\x2c", 300}, {"\xfe\xd4", -300}, {"\x00\xff", 255}, {"\xff\x00", -256}, {"\x01\x00", 256},
		{"\x7f\xff\xff\xff", math.MaxInt32}, {"\x80\x00\x00\x00", math.MinInt32}, {"\x00\xff\xff\xff\xff", math.MaxUint32},
		{"\x7f\xff\xff\xff\xff\xff\xff\xff", math.MaxInt}, {"\x80\x00\x00\x00\x00\x00\x00\x00", math.MinInt}, {"\x80\x00\x00\x00\x00\x00\x00\x01", math.MinInt + 1},
	} {
		if n, e := ber.Number(x.body); n != x.n || e != api.OK {
			t.Errorf("Number(%q) = %d, %d", x.body, n, e)
		}
		if s := ber.PutNumber(x.n); s != x.body {
			t.Errorf("PutNumber(%d) = %q", x.n, s)
		}
	}
	noNumber(t, "")
	for _, s := range []string{"\x00\x00", "\x00\x05", "\x00\x7f", "\xff\x80", "\xff\xff", "\x00\x00\x80", "\xff\xff\x7f", "\x00\x80\x00\x00\x00\x00\x00\x00\x00", "\xff\x7f\xff\xff\xff\xff\xff\xff\xff", "\x01\x00\x00\x00\x00\x00\x00\x00\x00"} {
		noNumber(t, s)
	}
	for _, s := range bodies() {
		want := plainNumber(s)
		if s == "" || len(s) > 8 || spare(s) {
			noNumber(t, s)
		} else if n, e := ber.Number(s); !want.IsInt64() || n != int(want.Int64()) || e != api.OK {
			t.Errorf("Number(%q) = %d, %d", s, n, e)
		}
	}
}

func noNumber(t *testing.T, s string) {
	t.Helper()
	if n, e := ber.Number(s); n != 0 || e != api.ErrBer {
		t.Errorf("Number(%q) = %d, %d", s, n, e)
	}
}

// 5.4
func TestUnsigned(t *testing.T) {
	for _, x := range []struct {
		body string
		n    uint64
	}{
		{"\x00", 0}, {"\x05", 5}, {"\x7f", 127}, {"\x00\x80", 128}, {"\x00\xff", 255}, {"\x01\x2c", 300}, {"\x00\xff\xff\xff\xff", math.MaxUint32},
		{"\x7f\xff\xff\xff\xff\xff\xff\xff", math.MaxInt64}, {"\x00\x80\x00\x00\x00\x00\x00\x00\x00", 1 << 63}, {"\x00\xff\xff\xff\xff\xff\xff\xff\xff", math.MaxUint64}, {"\x00\xff\x00\x00\x00\x00\x00\x00\x01", 0xFF00000000000001},
	} {
		if n, e := ber.Unsigned(x.body); n != x.n || e != api.OK {
			t.Errorf("Unsigned(%q) = %d, %d", x.body, n, e)
		}
		if s := ber.PutUnsigned(x.n); s != x.body {
			t.Errorf("PutUnsigned(%d) = %q", x.n, s)
		}
	}
	noUnsigned(t, "")
	for _, s := range []string{"\x80", "\xff", "\x80\x00", "\xff\x7f", "\x00\x00", "\x00\x7f", "\x00\x7f\xff\xff\xff\xff\xff\xff\xff", "\x01\x00\x00\x00\x00\x00\x00\x00\x00", "\x7f\xff\xff\xff\xff\xff\xff\xff\xff", "\x80\x00\x00\x00\x00\x00\x00\x00", "\x00\x80\x00\x00\x00\x00\x00\x00\x00\x00"} {
		noUnsigned(t, s)
	}
	for _, s := range bodies() {
		want := plainNumber(s)
		if s == "" || len(s) > 9 || spare(s) || want.Sign() < 0 || len(s) == 9 && s[0] != 0 {
			noUnsigned(t, s)
		} else if n, e := ber.Unsigned(s); !want.IsUint64() || n != want.Uint64() || e != api.OK {
			t.Errorf("Unsigned(%q) = %d, %d", s, n, e)
		}
	}
}

func noUnsigned(t *testing.T, s string) {
	t.Helper()
	if n, e := ber.Unsigned(s); n != 0 || e != api.ErrBer {
		t.Errorf("Unsigned(%q) = %d, %d", s, n, e)
	}
}

// 5.4, 5.5: there and back, in as few bytes as may be.
func TestNumbersThereAndBack(t *testing.T) {
	for _, n := range numbers() {
		s := ber.PutNumber(n)
		if back, e := ber.Number(s); back != n || e != api.OK || plainNumber(s).Cmp(big.NewInt(int64(n))) != 0 || spare(s) {
			t.Errorf("%d: %q, %d, %d", n, s, back, e)
		}
		u := uint64(n)
		s = ber.PutUnsigned(u)
		if back, e := ber.Unsigned(s); back != u || e != api.OK || plainNumber(s).Cmp(new(big.Int).SetUint64(u)) != 0 || spare(s) {
			t.Errorf("%d: %q, %d, %d", u, s, back, e)
		}
		if n >= 0 && s != ber.PutNumber(n) {
			t.Errorf("%d: %q, %q", n, s, ber.PutNumber(n))
		}
	}
	for _, s := range bodies() {
		if n, e := ber.Number(s); e == api.OK && ber.PutNumber(n) != s {
			t.Errorf("%q: %d, %q", s, n, ber.PutNumber(n))
		}
		if n, e := ber.Unsigned(s); e == api.OK && ber.PutUnsigned(n) != s {
			t.Errorf("%q: %d, %q", s, n, ber.PutUnsigned(n))
		}
	}
}
