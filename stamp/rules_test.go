package stamp_test

import (
	"math"
	"strconv"
	"strings"
	"testing"

	"gong/api"
	"gong/stamp"
)

// noTimes are numbers that are no times.
func noTimes() []int {
	return []int{-1, -2, -second, -day, math.MinInt, math.MinInt + 1, api.MaxTime + 1, api.MaxTime + second, 1 << 62, math.MaxInt - 1, math.MaxInt}
}

// numbers are times, minutes, and neither.
func numbers() []int {
	all := append(noTimes(), times()[:60]...)
	for _, n := range []int{1439, 1440, 1441} {
		all = append(all, n, -n)
	}
	return all
}

// texts are stamps and spans, whole, cut, and turned, and what is neither.
func texts() []string {
	all := []string{"", "\x00", "\xff", "Z", "0", strings.Repeat("9", 1<<16), strings.Repeat("\x80", 100)}
	for _, s := range []string{"2003-10-11T22:14:15.003Z", "2003-10-12T00:14:15.003000+02:00", "9999-99-99T99:99:99.999999999-99:99", "999999999ms", "0d"} {
		for i := range len(s) + 1 {
			all = append(all, s[:i], s[i:])
			for _, c := range []string{"", "0", "9", "-", ":", ".", "Z", "s", "\x00", "\xc3"} {
				all = append(all, s[:i]+c+s[min(i+1, len(s)):], s[:i]+c+s[i:])
			}
		}
	}
	return all
}

// P1, R5: every call ends at all arguments; what is refused answers nothing.
func TestAllArguments(t *testing.T) {
	for _, s := range texts() {
		for i, read := range []func(string) (int, api.Code){stamp.Parse, stamp.Span} {
			n, c := read(s)
			if c != api.OK && (n != 0 || c != api.ErrStamp) || n < 0 || n > api.MaxTime {
				t.Errorf("%d: %q: %d, %d", i, s, n, c)
			}
		}
	}
	for _, n := range numbers() {
		for i, write := range []func(int) (string, api.Code){stamp.Print, stamp.Spell} {
			s, c := write(n)
			if (s == "") != (c != api.OK) || c != api.OK && c != api.ErrRange {
				t.Errorf("%d: %d: %q, %d", i, n, s, c)
			}
		}
		for _, minutes := range numbers() {
			s, c := stamp.Shifted(n, minutes)
			right := n >= 0 && n <= api.MaxTime && minutes >= -1439 && minutes <= 1439 && n+minutes*minute >= 0
			if right != (c == api.OK) || right != (s != "") || !right && c != api.ErrRange {
				t.Errorf("Shifted(%d, %d) = %q, %d", n, minutes, s, c)
			}
		}
	}
}

// R2: what the chapter does not refuse may be: a - ahead of no hours and no
// minutes, 0s that are last behind the point, a date ahead of the first one or
// behind the last one whose zone makes it a time, a unit that is not the greatest.
func TestWhatIsNotRefused(t *testing.T) {
	parses(t, "2003-10-11T22:14:15.003000000-00:00", 1065910455003000000)
	parses(t, "1969-12-31T20:00:00-04:00", 0)
	parses(t, "2043-01-26T01:56:49.213693952+02:00", api.MaxTime)
	spans(t, "86400s", day)
	spans(t, "0d", 0)
}

// R6: numbers are written without a 0 ahead, and read so.
func TestNumbersAsText(t *testing.T) {
	for n := 1; n < 999999999; n = n*5/4 + 1 {
		s, c := stamp.Spell(n)
		digits := strings.TrimRight(s, "nums")
		if k, err := strconv.Atoi(digits); err != nil || strconv.Itoa(k) != digits || c != api.OK {
			t.Errorf("Spell(%d) = %q, %d", n, s, c)
		}
		spans(t, s, n)
		noSpan(t, "0"+s)
		noSpan(t, "+"+s)
	}
}

// R7: the same call tells the same, whatever was called before, and what was answered stays.
func TestCallsAreTheirOwn(t *testing.T) {
	first, _ := stamp.Print(1065910455003000000)
	ahead, _ := stamp.Shifted(1065910455003000000, 120)
	span, _ := stamp.Spell(30 * second)
	for range 2 {
		parses(t, first, 1065910455003000000)
		noStamp(t, "2003-02-29T00:00:00Z")
		parses(t, ahead, 1065910455003000000)
		spans(t, span, 30*second)
		noSpan(t, "999999999d")
		stamp.Print(-1)
		stamp.Shifted(0, -1)
		stamp.Spell(-1)
	}
	if first != "2003-10-11T22:14:15.003Z" || ahead != "2003-10-12T00:14:15.003+02:00" || span != "30s" {
		t.Error(first, ahead, span)
	}
}
