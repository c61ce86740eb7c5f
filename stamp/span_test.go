package stamp_test

import (
	"strconv"
	"strings"
	"testing"

	"gong/api"
	"gong/stamp"
)

// longs are what the units tell, the greatest first.
var longs = []struct {
	name string
	long int
}{{"d", day}, {"h", hour}, {"m", minute}, {"s", second}, {"ms", 1000000}, {"us", 1000}, {"ns", 1}}

func spans(t *testing.T, s string, want int) {
	t.Helper()
	if n, c := stamp.Span(s); n != want || c != api.OK {
		t.Errorf("Span(%q) = %d, %d; not %d", s, n, c, want)
	}
}

func noSpan(t *testing.T, s string) {
	t.Helper()
	if n, c := stamp.Span(s); n != 0 || c != api.ErrStamp {
		t.Errorf("Span(%q) = %d, %d", s, n, c)
	}
}

// 3.3
func TestSpan(t *testing.T) {
	for _, x := range []struct {
		s    string
		want int
	}{
		{"0ns", 0}, {"0us", 0}, {"0ms", 0}, {"0s", 0}, {"0m", 0}, {"0h", 0}, {"0d", 0},
		{"1ns", 1}, {"1us", 1000}, {"1ms", 1000000}, {"1s", 1000000000}, {"1m", 60000000000}, {"1h", 3600000000000}, {"1d", 86400000000000},
		{"30s", 30 * second}, {"90s", 90 * second}, {"1000ms", second}, {"24h", day}, {"10m", 10 * minute}, {"100m", 100 * minute},
		{"999999999ns", 999999999}, {"999999999us", 999999999000}, {"999999999ms", 999999999000000}, {"999999999s", 999999999000000000},
		{"38430716m", 38430716 * minute}, {"640511h", 640511 * hour}, {"26687d", 26687 * day},
	} {
		spans(t, x.s, x.want)
	}
	for _, u := range longs {
		for n := range 3000 {
			spans(t, strconv.Itoa(n)+u.name, n*u.long)
		}
		most := min(api.MaxTime/u.long, 999999999)
		spans(t, strconv.Itoa(most)+u.name, most*u.long)
		noSpan(t, strconv.Itoa(most+1)+u.name)
	}
}

// 3.3: what is above the greatest time, whatever an int would make of it.
func TestSpanTooLong(t *testing.T) {
	for _, s := range []string{
		"38430717m", "640512h", "26688d", "153722868m", "999999999m", "2562048h", "5124096h", "999999999h", "106752d", "213504d", "213505d", "999999999d",
		"1000000000ns", "1000000000us", "1000000000ms", "1000000000s", "2305843009213693952ns", "2305843009s", "9999999999s", "18446744073709551617ns",
		strings.Repeat("9", 1<<16) + "s", "1" + strings.Repeat("0", 40) + "d",
	} {
		noSpan(t, s)
	}
	for n := 26688; n < 999999999; n = n*9/8 + 1 {
		noSpan(t, strconv.Itoa(n)+"d")
	}
	for n := 640512; n < 999999999; n = n*9/8 + 1 {
		noSpan(t, strconv.Itoa(n)+"h")
	}
}

// 3.3, R6: texts that are no spans.
func TestNoSpan(t *testing.T) {
	for _, s := range []string{
		"", "0", "1", "30", "999999999", "s", "ms", "ns", "d", "S", "30S", "30D", "30H", "30M", "30MS", "30Ms", "30mS",
		"00s", "01s", "030s", "000000000s", "000000001s", "0000000000s", "00ns", "01d",
		"-1s", "-0s", "+1s", "+0s", " 1s", "1s ", "1 s", "1s\n", "1.5s", "1,5s", "1e3s", "0x1s", "1_000s", "1'000s", ".5s", "5.s",
		"1sec", "1min", "1w", "1y", "1µs", "1μs", "1ss", "1sm", "1mss", "1nms", "1mns", "1hs", "1ds", "1sd", "1nd", "1un", "1n", "1u", "1mm", "1nss", "1sns",
		"1h30m", "1d0s", "1m1s", "1s1", "s1", "d1", "1d1", "٣s", "１s", "\xff1s", "1\x00s", "1s\x00", "1\x00", "-", "ms1ms", "m1s", "1m s",
		strings.Repeat("s", 1<<16), strings.Repeat("1s", 1<<15),
	} {
		noSpan(t, s)
	}
	for _, u := range longs {
		for b := range 256 {
			c := string([]byte{byte(b)})
			if b < '0' || b > '9' {
				noSpan(t, c+"5"+u.name)
				noSpan(t, "5"+c+"5"+u.name)
			}
			if u.name+c != "ms" {
				noSpan(t, "5"+u.name+c)
			}
		}
	}
}

// 3.3
func TestSpell(t *testing.T) {
	for _, x := range []struct {
		n    int
		want string
	}{
		{0, "0s"}, {1, "1ns"}, {999, "999ns"}, {1000, "1us"}, {1001, "1001ns"}, {1500, "1500ns"}, {999999, "999999ns"}, {1000000, "1ms"}, {1001000, "1001us"},
		{second, "1s"}, {1500000000, "1500ms"}, {30 * second, "30s"}, {59 * second, "59s"}, {minute, "1m"}, {61 * second, "61s"}, {90 * second, "90s"}, {90 * minute, "90m"},
		{hour, "1h"}, {23 * hour, "23h"}, {day, "1d"}, {25 * hour, "25h"}, {48 * hour, "2d"}, {7 * day, "7d"}, {26687 * day, "26687d"},
		{999999999, "999999999ns"}, {999999999000, "999999999us"}, {999999999000000, "999999999ms"}, {999999999 * second, "999999999s"},
		{38430715 * minute, "38430715m"}, {640511 * hour, "640511h"}, {1000000000000, "1000s"},
	} {
		if s, c := stamp.Spell(x.n); s != x.want || c != api.OK {
			t.Errorf("Spell(%d) = %q, %d", x.n, s, c)
		}
	}
	for i, u := range longs {
		for k := 1; k < 3000; k++ {
			if i > 0 && k*u.long%longs[i-1].long == 0 {
				continue
			}
			if s, c := stamp.Spell(k * u.long); s != strconv.Itoa(k)+u.name || c != api.OK {
				t.Errorf("Spell(%d) = %q, %d", k*u.long, s, c)
			}
		}
	}
}

// 3.3
func TestSpellRefuses(t *testing.T) {
	for _, n := range noTimes() {
		noSpell(t, n)
	}
	for _, n := range []int{
		1000000001, 1234567890123, 999999999999, 1000000000001, 1000000001000, 1000000001000000, 1000000000 * second, 1000000001 * second, 2000000003 * second,
		1065910455003000000, api.MaxTime, api.MaxTime - 1, day + 1, 365*day + 1000, 365*day + 1000000 + 1000,
	} {
		noSpell(t, n)
	}
}

func noSpell(t *testing.T, n int) {
	t.Helper()
	if s, c := stamp.Spell(n); s != "" || c != api.ErrRange {
		t.Errorf("Spell(%d) = %q, %d", n, s, c)
	}
}

// 3.4
func TestSpansThereAndBack(t *testing.T) {
	all := times()
	for _, u := range longs {
		for n := range 300 {
			all = append(all, odd(n, min(999999999, api.MaxTime/u.long))*u.long)
		}
	}
	for _, n := range all {
		if s, c := stamp.Spell(n); c == api.OK {
			spans(t, s, n)
		} else if !tooFine(n) {
			t.Errorf("Spell(%d): %d", n, c)
		}
	}
}

// tooFine tells whether the greatest unit that divides n goes into it too often.
func tooFine(n int) bool {
	for _, u := range longs {
		if n%u.long == 0 {
			return n/u.long > 999999999
		}
	}
	return false
}
