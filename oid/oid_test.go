package oid_test

import (
	"fmt"
	"math"
	"math/big"
	"regexp"
	"slices"
	"strings"
	"testing"

	"gong/api"
	"gong/oid"
)

var (
	form = regexp.MustCompile(`^(0|[1-9][0-9]*)([.](0|[1-9][0-9]*))+$`)
	top  = new(big.Int).Lsh(big.NewInt(1), 32)
)

// plainArcs is the chapter's words for the arcs of a text.
func plainArcs(s string) ([]int, bool) {
	if !form.MatchString(s) {
		return nil, false
	}
	var arcs []int
	for _, w := range strings.Split(s, ".") {
		n, _ := new(big.Int).SetString(w, 10)
		if n.Cmp(top) >= 0 {
			return nil, false
		}
		arcs = append(arcs, int(n.Int64()))
	}
	return arcs, plainAre(arcs)
}

// plainAre is the chapter's words for what arcs an identifier has.
func plainAre(arcs []int) bool {
	if len(arcs) < 2 || len(arcs) > 128 {
		return false
	}
	for _, n := range arcs {
		if n < 0 || n > 4294967295 {
			return false
		}
	}
	switch arcs[0] {
	case 0, 1:
		return arcs[1] <= 39
	case 2:
		return arcs[1] <= 4294967215
	}
	return false
}

// plainText is the chapter's words for the text of arcs.
func plainText(arcs []int) string {
	return strings.ReplaceAll(strings.Trim(fmt.Sprint(arcs), "[]"), " ", ".")
}

// plainGroups is a number's groups: base 128, digit by digit.
func plainGroups(n int) string {
	s := string([]byte{byte(n % 128)})
	for n /= 128; n > 0; n /= 128 {
		s = string([]byte{byte(n%128 + 128)}) + s
	}
	return s
}

// plainBody is the chapter's words for the body of an identifier's arcs.
func plainBody(arcs []int) string {
	s := plainGroups(40*arcs[0] + arcs[1])
	for _, n := range arcs[2:] {
		s += plainGroups(n)
	}
	return s
}

// plainDecode is the chapter's words for the arcs whose body that is.
func plainDecode(body string) ([]int, bool) {
	var numbers []int
	for body != "" {
		long := 1
		for long < len(body) && body[long-1] >= 128 {
			long++
		}
		n := new(big.Int)
		for _, b := range []byte(body[:long]) {
			n.Add(n.Lsh(n, 7), big.NewInt(int64(b%128)))
		}
		if body[0] == 128 || body[long-1] >= 128 || n.Cmp(top) >= 0 {
			return nil, false
		}
		numbers, body = append(numbers, int(n.Int64())), body[long:]
	}
	if len(numbers) == 0 {
		return nil, false
	}
	for first := 2; first >= 0; first-- {
		if numbers[0] >= 40*first {
			arcs := append([]int{first, numbers[0] - 40*first}, numbers[1:]...)
			return arcs, plainAre(arcs)
		}
	}
	return nil, false
}

// short is all texts of these bytes that have at most so many.
func short(bytes string, most int) []string {
	all, ahead := []string{""}, []string{""}
	for range most {
		var next []string
		for _, s := range ahead {
			for i := range len(bytes) {
				next = append(next, s+bytes[i:i+1])
			}
		}
		all, ahead = append(all, next...), next
	}
	return all
}

// odd are numbers at and beyond the edges of what an arc may be.
func odd() []int {
	return []int{math.MinInt, math.MinInt + 1, -1 << 32, -1 << 31, -40, -2, -1, 1 << 32, 1<<32 + 1, 1<<32 + 3, 1<<32 + 40, 1 << 33, 1 << 40, 1 << 62, math.MaxInt - 1, math.MaxInt}
}

// lists are the arcs of identifiers, those at the edges among them.
func lists() [][]int {
	all := [][]int{{1, 3, 6, 1}, {1, 3, 6, 1, 4, 1, 8072, 3, 2, 10}, {2, 999, 3}}
	for first := range 3 {
		for _, second := range []int{0, 1, 9, 10, 38, 39, 40, 46, 47, 48, 79, 80, 127, 128, 999, 16303, 16304, 1<<21 - 81, 1<<21 - 80, 1<<28 - 81, 1<<28 - 80, 1 << 31, 4294967214, 4294967215} {
			if first == 2 || second < 40 {
				all = append(all, []int{first, second}, []int{first, second, 0}, []int{first, second, 7, 4294967295, 0})
			}
		}
	}
	for _, n := range []int{0, 1, 2, 9, 10, 11, 99, 100, 127, 128, 129, 255, 256, 16383, 16384, 1<<21 - 1, 1 << 21, 1<<28 - 1, 1 << 28, 1<<31 - 1, 1 << 31, 4294967294, 4294967295} {
		all = append(all, []int{0, 0, n}, []int{1, 3, n}, []int{1, 3, n, 0}, []int{1, 3, n, n}, []int{1, 3, 6, n}, []int{2, 39, 1, 2, n})
	}
	for _, long := range []int{126, 127, 128} {
		all = append(all, make([]int, long), slices.Repeat([]int{2}, long), append([]int{2, 4294967215}, slices.Repeat([]int{4294967295}, long-2)...))
	}
	return all
}

// wrongTexts are no identifier's.
func wrongTexts() []string {
	all := []string{
		"", ".", "..", "1", "0", "2", "1.", ".1", ".1.3", "1.3.", "1..3", "1.3..6", "..1.3", "1.3.6.1.", "\x00", "1\x003", "1.3\x00", "1.3.\x00",
		"01.3", "1.03", "1.3.00", "1.3.01", "00.0", "1.3.6.007", "1.3.0000000000000000000000000001",
		"+1.3", "1.+3", "1.3.+6", "-1.3", "1.-3", "1.3.-6", "1.3.-0", "1.3.+0", " 1.3", "1.3 ", "1. 3", "1.3\n", "1,3", "1.3,6", "1/3", "1.3.6:1",
		"1.a", "a.1", "1.3.x", "1.3.0x6", "1.3.6e1", "1.3.1_0", "1.3.1_000", "0b1.3", "iso.3", "1.3.\xef\xbc\x96", "1.3.\xd9\xa3", "1.3\xff", "\xff", "1.3.\xc2\xb2", "{1 3 6}", "1 3 6",
		"3.0", "3.1", "4.5", "9.9", "10.3", "40.1", "4294967295.0", "0.40", "1.40", "0.41", "1.47", "1.127", "1.4294967295", "0.4294967295", "1.40.1", "0.40.1", "3.1.1",
		"2.4294967216", "2.4294967217", "2.4294967295", "2.4294967296", "2.4294967216.1", "2.18446744073709551616",
		"1.3.4294967296", "1.3.4294967297", "1.3.4294967299.1", "1.3.5000000000", "1.3.9999999999", "1.3.9223372036854775807", "1.3.9223372036854775808", "1.3.18446744073709551615", "1.3.18446744073709551616", "1.3.18446744073709551622", "1.3.340282366920938463463374607431768211456", "4294967297.3", "1.4294967299", "18446744073709551617.3",
		"1.3." + strings.Repeat("9", 1<<16), strings.Repeat("1", 1<<16), strings.Repeat(".", 1<<16), strings.Repeat("1.", 1<<16), "1.3." + strings.Repeat("0", 1<<16),
	}
	for _, long := range []int{129, 130, 131, 256, 257, 1 << 14} {
		all = append(all, strings.Repeat("0.", long-1)+"0", strings.Repeat("2.", long-1)+"4294967295")
	}
	return append(all, strings.Repeat("1.", 128), "."+strings.Repeat("1.", 127)+"1", strings.Repeat("1.", 127)+"4294967296", strings.Repeat("1.", 127)+"x", strings.Repeat("1.", 127)+"01")
}

func isNone(t *testing.T, s string) {
	t.Helper()
	if arcs, e := oid.Arcs(s); len(arcs) != 0 || e != api.ErrOid {
		t.Errorf("Arcs(%.80q) = %v, %d", s, arcs, e)
	}
	if body, e := oid.Encode(s); body != "" || e != api.ErrOid {
		t.Errorf("Encode(%.80q) = %q, %d", s, body, e)
	}
}

func isOne(t *testing.T, s string, arcs []int, body string) {
	t.Helper()
	if l, e := oid.Arcs(s); !slices.Equal(l, arcs) || e != api.OK {
		t.Errorf("Arcs(%q) = %v, %d", s, l, e)
	}
	if b, e := oid.Encode(s); b != body || e != api.OK {
		t.Errorf("Encode(%q) = %q, %d", s, b, e)
	}
	if back, e := oid.Text(arcs); back != s || e != api.OK {
		t.Errorf("Text(%v) = %q, %d", arcs, back, e)
	}
	if back, e := oid.Decode(body); back != s || e != api.OK {
		t.Errorf("Decode(%q) = %q, %d", body, back, e)
	}
}

// 6.1, 6.3
func TestIdentifiers(t *testing.T) {
	for _, x := range []struct {
		s    string
		arcs []int
		body string
	}{
		{"1.3.6.1", []int{1, 3, 6, 1}, "\x2b\x06\x01"}, {"2.999.3", []int{2, 999, 3}, "\x88\x37\x03"},
		{"0.0", []int{0, 0}, "\x00"}, {"0.39", []int{0, 39}, "\x27"}, {"1.0", []int{1, 0}, "\x28"}, {"1.39", []int{1, 39}, "\x4f"}, {"2.0", []int{2, 0}, "\x50"}, {"2.39", []int{2, 39}, "\x77"}, {"2.40", []int{2, 40}, "\x78"},
		{"2.47", []int{2, 47}, "\x7f"}, {"2.48", []int{2, 48}, "\x81\x00"}, {"2.4294967215", []int{2, 4294967215}, "\x8f\xff\xff\xff\x7f"}, {"2.4294967215.4294967295", []int{2, 4294967215, 4294967295}, "\x8f\xff\xff\xff\x7f\x8f\xff\xff\xff\x7f"},
		{"0.0.0", []int{0, 0, 0}, "\x00\x00"}, {"1.3.127", []int{1, 3, 127}, "\x2b\x7f"}, {"1.3.128", []int{1, 3, 128}, "\x2b\x81\x00"}, {"1.3.300.0", []int{1, 3, 300, 0}, "\x2b\x82\x2c\x00"}, {"1.3.4294967295", []int{1, 3, 4294967295}, "\x2b\x8f\xff\xff\xff\x7f"},
		{"1.3.6.1.4.1.2680", []int{1, 3, 6, 1, 4, 1, 2680}, "\x2b\x06\x01\x04\x01\x94\x78"}, {strings.Repeat("1.", 127) + "1", slices.Repeat([]int{1}, 128), "\x29" + strings.Repeat("\x01", 126)},
	} {
		isOne(t, x.s, x.arcs, x.body)
	}
	for _, arcs := range lists() {
		isOne(t, plainText(arcs), arcs, plainBody(arcs))
	}
	for first := range 3 {
		for second := range 40 {
			for third := range 140 {
				arcs := []int{first, second, third}
				isOne(t, plainText(arcs), arcs, plainBody(arcs))
			}
		}
	}
}

// 6.1
func TestTextsOfNone(t *testing.T) {
	for _, s := range wrongTexts() {
		isNone(t, s)
	}
}

// 6.1: all that few letters may be.
func TestEachText(t *testing.T) {
	all := append(short("01239.-", 6), short("0249. ", 6)...)
	for b := range 256 {
		c := string([]byte{byte(b)})
		all = append(all, c, c+"1.3", "1.3"+c, "1.3."+c, "1.3"+c+"6", "1.3.6"+c+"1", "1"+c+"3")
	}
	for _, s := range all {
		if arcs, ok := plainArcs(s); ok {
			isOne(t, s, arcs, plainBody(arcs))
		} else {
			isNone(t, s)
		}
	}
}

func noText(t *testing.T, arcs []int) {
	t.Helper()
	if s, e := oid.Text(arcs); s != "" || e != api.ErrOid {
		t.Errorf("Text(%v) = %q, %d", arcs, s, e)
	}
}

// 6.1
func TestArcsOfNone(t *testing.T) {
	for _, arcs := range [][]int{{0}, {1}, {2}, {0, 40}, {1, 40}, {1, 47}, {0, 40, 1}, {1, 1 << 31}, {3, 0}, {3, 3}, {40, 3}, {2, 4294967216}, {2, 4294967295}, {2, 4294967216, 1}, {2, 4294967296}, {1, 3, 4294967296}, {1, 3, -1}, {1, -1}, {-1, 3}, {2, -1}, {0, -1, 1}} {
		noText(t, arcs)
	}
	for _, n := range odd() {
		for at := range 6 {
			arcs := []int{2, 1, 0, 7, 9, 1}
			arcs[at] = n
			noText(t, arcs)
		}
	}
	for _, long := range []int{129, 130, 256, 1 << 16} {
		noText(t, make([]int, long))
		noText(t, slices.Repeat([]int{1}, long))
	}
	for a := -3; a < 6; a++ {
		for b := -3; b < 60; b++ {
			for c := -2; c < 3; c++ {
				arcs := []int{a, b, c}
				if !plainAre(arcs) {
					noText(t, arcs)
				} else if s, e := oid.Text(arcs); s != plainText(arcs) || e != api.OK {
					t.Errorf("Text(%v) = %q, %d", arcs, s, e)
				}
			}
		}
	}
}

func noBody(t *testing.T, body string) {
	t.Helper()
	if s, e := oid.Decode(body); s != "" || e != api.ErrOid {
		t.Errorf("Decode(%.80q) = %q, %d", body, s, e)
	}
}

// 6.1
func TestBodiesOfNone(t *testing.T) {
	for _, body := range []string{
		"", "\x80", "\x81", "\xff", "\x80\x00", "\x80\x01", "\x80\x2b", "\x80\x80\x01", "\x2b\x80", "\x2b\x80\x06", "\x2b\x06\x80\x01", "\x2b\x81", "\x2b\x06\x81", "\x2b\x8f\xff\xff\xff", "\x2b\x06\xff\xff",
		"\x90\x80\x80\x80\x00", "\x90\x80\x80\x80\x50", "\x8f\xff\xff\xff\xff", "\x8f\xff\xff\xff\xff\x7f", "\xff\xff\xff\xff\x7f", "\x2b\x90\x80\x80\x80\x00", "\x2b\x90\x80\x80\x80\x06", "\x2b\xff\xff\xff\xff\x7f", "\x2b\x81\x80\x80\x80\x80\x00",
		"\x2b\x82\x80\x80\x80\x80\x80\x80\x80\x80\x06", "\x2b\x81\x80\x80\x80\x80\x80\x80\x80\x80\x80\x06", "\xff\xff\xff\xff\xff\xff\xff\xff\x7f", "\xff\xff\xff\xff\xff\xff\xff\xff\xff\x7f", "\x81\x80\x80\x80\x80\x80\x80\x80\x80\x80\x00",
		strings.Repeat("\x00", 128), "\x29" + strings.Repeat("\x01", 127), "\x29" + strings.Repeat("\x01", 128), strings.Repeat("\x01", 1<<16), strings.Repeat("\x8f\xff\xff\xff\x7f", 128), strings.Repeat("\xff", 1<<16), strings.Repeat("\x81", 127), strings.Repeat("\x80", 127),
		"\x29" + strings.Repeat("\x01", 126) + "\x81", "\x29" + strings.Repeat("\x01", 126) + "\x80", "\x29" + strings.Repeat("\x01", 125) + "\x81", "\x29" + strings.Repeat("\x01", 125) + "\x80\x01",
	} {
		noBody(t, body)
	}
}

// 6.1, 6.3: all that few bytes may be.
func TestEachBody(t *testing.T) {
	all := short("\x00\x01\x27\x28\x4f\x50\x7f\x80\x81\x8f\x90\xff", 4)
	for a := range 256 {
		for b := range 256 {
			all = append(all, string([]byte{byte(a), byte(b)}), string([]byte{0x2b, byte(a), byte(b)}), string([]byte{byte(a), 0xff, 0xff, 0xff, byte(b)}), string([]byte{0x2b, byte(a), 0x80, 0x80, 0x80, byte(b)}))
		}
	}
	for _, body := range all {
		arcs, ok := plainDecode(body)
		if !ok {
			noBody(t, body)
			continue
		}
		s, e := oid.Decode(body)
		if s != plainText(arcs) || e != api.OK {
			t.Errorf("Decode(%q) = %q, %d", body, s, e)
		}
		if back, e := oid.Encode(s); back != body || e != api.OK {
			t.Errorf("%q: %q, then %q, %d", body, s, back, e)
		}
	}
}
