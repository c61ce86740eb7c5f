package octet_test

import (
	"math"
	"strings"
	"testing"

	"gong/api"
	"gong/octet"
)

// numbers lie around each place where a number takes another byte.
func numbers() []int {
	all := []int{0, 1, 2, 300, 1065910455003000000, api.MaxTime, math.MaxInt}
	for bits := 3; bits < 63; bits++ {
		all = append(all, 1<<bits-1, 1<<bits, 1<<bits+1)
	}
	return all
}

// plainGroups is the words of the chapter again, in another way: base 128, digit by digit.
func plainGroups(n int) string {
	s := string([]byte{byte(n % 128)})
	for n /= 128; n > 0; n /= 128 {
		s = string([]byte{byte(n%128 + 128)}) + s
	}
	return s
}

func plainWide(n, w int) string {
	s := ""
	for range w {
		s = string([]byte{byte(n % 256)}) + s
		n /= 256
	}
	return s
}

// 1.1
func TestGroups(t *testing.T) {
	for _, x := range []struct {
		n    int
		want string
	}{
		{0, "\x00"}, {1, "\x01"}, {127, "\x7f"}, {128, "\x81\x00"}, {300, "\x82\x2c"},
		{16383, "\xff\x7f"}, {16384, "\x81\x80\x00"}, {1 << 56, "\x81\x80\x80\x80\x80\x80\x80\x80\x00"},
		{math.MaxInt, "\xff\xff\xff\xff\xff\xff\xff\xff\x7f"},
	} {
		if s, c := octet.Groups(x.n); s != x.want || c != api.OK {
			t.Errorf("Groups(%d) = %q, %d", x.n, s, c)
		}
	}
	for _, n := range numbers() {
		if s, c := octet.Groups(n); s != plainGroups(n) || c != api.OK {
			t.Errorf("Groups(%d) = %q, %d", n, s, c)
		}
	}
	for _, n := range []int{-1, -128, math.MinInt} {
		if s, c := octet.Groups(n); s != "" || c != api.ErrRange {
			t.Errorf("Groups(%d) = %q, %d", n, s, c)
		}
	}
}

// 1.1
func TestWide(t *testing.T) {
	for _, x := range []struct {
		n, w int
		want string
		code api.Code
	}{
		{300, 3, "\x00\x01\x2c", api.OK}, {300, 2, "\x01\x2c", api.OK}, {300, 1, "", api.ErrRange},
		{0, 1, "\x00", api.OK}, {255, 1, "\xff", api.OK}, {256, 1, "", api.ErrRange},
		{math.MaxInt, 8, "\x7f\xff\xff\xff\xff\xff\xff\xff", api.OK}, {math.MaxInt, 7, "", api.ErrRange},
		{1<<56 - 1, 7, "\xff\xff\xff\xff\xff\xff\xff", api.OK}, {1 << 56, 7, "", api.ErrRange},
		{0, 0, "", api.ErrRange}, {0, 9, "", api.ErrRange}, {0, -1, "", api.ErrRange},
		{0, math.MinInt, "", api.ErrRange}, {0, math.MaxInt, "", api.ErrRange},
		{-1, 1, "", api.ErrRange}, {-1, 8, "", api.ErrRange}, {math.MinInt, 8, "", api.ErrRange},
	} {
		if s, c := octet.Wide(x.n, x.w); s != x.want || c != x.code {
			t.Errorf("Wide(%d, %d) = %q, %d", x.n, x.w, s, c)
		}
	}
	for _, n := range numbers() {
		for w := 1; w <= 8; w++ {
			want, code := plainWide(n, w), api.OK
			if w < 8 && n >= 1<<(8*w) {
				want, code = "", api.ErrRange
			}
			if s, c := octet.Wide(n, w); s != want || c != code {
				t.Errorf("Wide(%d, %d) = %q, %d", n, w, s, c)
			}
		}
	}
}

// 1.1
func TestText(t *testing.T) {
	for _, s := range []string{"", "a", "ab", "\x00\xff\x80", strings.Repeat("x", 127), strings.Repeat("y", 128), strings.Repeat("z", 1<<16)} {
		if got := octet.Text(s); got != plainGroups(len(s))+s {
			t.Errorf("Text of %d bytes begins with %q", len(s), got[:min(4, len(got))])
		}
	}
}

// 1.4
func TestThereAndBack(t *testing.T) {
	var bytes strings.Builder
	for _, n := range numbers() {
		groups, _ := octet.Groups(n)
		wide, _ := octet.Wide(n, 8)
		bytes.WriteString(groups + wide + octet.Text(groups))
	}
	r := octet.Read(bytes.String())
	for _, n := range numbers() {
		groups, wide, text := r.Groups(n), r.Wide(8), r.Text(9)
		if groups != n || wide != n || text != plainGroups(n) {
			t.Fatal(n, groups, wide, text)
		}
	}
	if r.Left() != 0 || r.Done() != api.OK {
		t.Error(r.Left(), r.Done())
	}
	for n := range 1 << 16 {
		s, _ := octet.Wide(n, 2)
		if got := octet.Read(s).Wide(2); got != n {
			t.Fatal(n, got)
		}
	}
}

// 1.4
func TestWhatIsReadIsWrittenAsItStood(t *testing.T) {
	for _, s := range short("\x00\x01\x7f\x80\x81\xfe\xff", 4) {
		r := octet.Read(s)
		if n := r.Groups(math.MaxInt); r.Code() == api.OK {
			if back, c := octet.Groups(n); c != api.OK || back != s[:len(s)-r.Left()] {
				t.Errorf("%q: %d, %q", s, n, back)
			}
		}
		for w := 1; w <= len(s); w++ {
			if back, c := octet.Wide(octet.Read(s).Wide(w), w); c != api.OK || back != s[:w] {
				t.Errorf("%q: wide %d: %q", s, w, back)
			}
		}
		r = octet.Read(s)
		if text := r.Text(len(s)); r.Code() == api.OK && octet.Text(text) != s[:len(s)-r.Left()] {
			t.Errorf("%q: %q", s, text)
		}
	}
}

// 1.4
func TestNoGroupsBeginOthers(t *testing.T) {
	of := map[string]int{}
	for _, n := range append(numbers(), short16()...) {
		s, _ := octet.Groups(n)
		if other, ok := of[s]; ok && other != n {
			t.Errorf("%d and %d are both %q", other, n, s)
		}
		of[s] = n
	}
	for s, n := range of {
		for i := range len(s) {
			if other, ok := of[s[:i]]; ok {
				t.Errorf("the groups of %d begin those of %d", other, n)
			}
		}
	}
}

// short16 is all numbers of at most 16 bits.
func short16() []int {
	all := make([]int, 1<<16)
	for n := range all {
		all[n] = n
	}
	return all
}

// short is all texts of these bytes that have at most so many.
func short(bytes string, most int) []string {
	all, ahead := []string{""}, []string{""}
	for range most {
		var next []string
		for _, s := range ahead {
			for i := range len(bytes) {
				next = append(next, s+bytes[i:i+1])
			}
		}
		all, ahead = append(all, next...), next
	}
	return all
}
