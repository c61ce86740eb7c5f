package stamp_test

import (
	"slices"
	"strconv"
	"strings"
	"testing"
	"time"

	"gong/api"
	"gong/stamp"
)

const (
	second = 1000000000
	minute = 60 * second
	hour   = 60 * minute
	day    = 24 * hour
)

// lastStamp is the last time there is.
const lastStamp = "2043-01-25T23:56:49.213693952Z"

// leap is the chapter's words for leap years.
func leap(year int) bool {
	if year%400 == 0 {
		return true
	}
	return year%4 == 0 && year%100 != 0
}

func lastOf(year, month int) int {
	switch month {
	case 2:
		if leap(year) {
			return 29
		}
		return 28
	case 4, 6, 9, 11:
		return 30
	}
	return 31
}

// dates goes day by day from the first one on, and tells how many were ahead.
func dates(yield func(days int, date string) bool) {
	days := 0
	for year := 1970; year <= 2044; year++ {
		for month := 1; month <= 12; month++ {
			for of := 1; of <= lastOf(year, month); of++ {
				if !yield(days, pad(year, 4)+"-"+pad(month, 2)+"-"+pad(of, 2)) {
					return
				}
				days++
			}
		}
	}
}

func pad(n, long int) string {
	s := strconv.Itoa(n)
	for len(s) < long {
		s = "0" + s
	}
	return s
}

// zone is how a clock that goes ahead by so many minutes writes that.
func zone(minutes int) string {
	if minutes < 0 {
		return "-" + pad(-minutes/60, 2) + ":" + pad(-minutes%60, 2)
	}
	return "+" + pad(minutes/60, 2) + ":" + pad(minutes%60, 2)
}

// odd is a number from 0 to most that no chance makes, but looks so.
func odd(n, most int) int {
	x := uint64(n+1) * 0x9E3779B97F4A7C15
	x = (x ^ x>>30) * 0xBF58476D1CE4E5B9
	x = (x ^ x>>27) * 0x94D049BB133111EB
	return int((x ^ x>>31) % uint64(most+1))
}

// times lie at the edges of all that a stamp tells, and between.
func times() []int {
	all := []int{0, 1, api.MaxTime, api.MaxTime - 1, 1065910455003000000}
	for _, unit := range []int{10, 100, 1000, 10000, 100000, 1000000, 10000000, 100000000, second, minute, hour, day, 31 * day, 365 * day} {
		for _, k := range []int{1, 2, 9, 59, 60} {
			all = append(all, unit*k-1, unit*k, unit*k+1)
		}
	}
	for n := range 400 {
		t := odd(n, api.MaxTime)
		all = append(all, t, t/1000*1000, t/1000000*1000000, t/second*second, t/minute*minute, t/day*day, t/day*day-1)
	}
	return all
}

func parses(t *testing.T, s string, want int) {
	t.Helper()
	if n, c := stamp.Parse(s); n != want || c != api.OK {
		t.Errorf("Parse(%q) = %d, %d; not %d", s, n, c, want)
	}
}

func noStamp(t *testing.T, s string) {
	t.Helper()
	if n, c := stamp.Parse(s); n != 0 || c != api.ErrStamp {
		t.Errorf("Parse(%q) = %d, %d", s, n, c)
	}
}

// 3.1
func TestParse(t *testing.T) {
	for _, x := range []struct {
		s    string
		want int
	}{
		{"2003-10-11T22:14:15.003Z", 1065910455003000000},
		{"2003-10-12T00:14:15.003000+02:00", 1065910455003000000},
		{"1970-01-01T00:00:00Z", 0}, {"1970-01-01T00:00:00+00:00", 0}, {"1970-01-01T00:00:00-00:00", 0},
		{"1970-01-01T00:00:00.0Z", 0}, {"1970-01-01T00:00:00.000000000Z", 0}, {"1970-01-01T00:00:00.000000001Z", 1},
		{"1970-01-01T00:00:00.1Z", 100000000}, {"1970-01-01T00:00:00.12Z", 120000000},
		{"1970-01-01T00:00:00.012345Z", 12345000}, {"1970-01-01T00:00:00.999999999Z", 999999999},
		{"1970-01-01T00:00:01Z", second}, {"1970-01-01T00:00:59Z", 59 * second}, {"1970-01-01T00:01:00Z", minute},
		{"1970-01-01T00:59:00Z", 59 * minute}, {"1970-01-01T01:00:00Z", hour}, {"1970-01-01T23:59:59Z", day - second},
		{"1970-01-02T00:00:00Z", day}, {"1970-02-01T00:00:00Z", 31 * day}, {"1970-12-31T00:00:00Z", 364 * day},
		{"2000-02-29T12:00:00Z", 951825600 * second}, {"2000-03-01T00:00:00Z", 951868800 * second},
		{"2038-01-19T03:14:08Z", 1 << 31 * second},
		{lastStamp, api.MaxTime}, {"2043-01-25T23:56:49.213693951Z", api.MaxTime - 1},
	} {
		parses(t, x.s, x.want)
	}
	for days, date := range dates {
		at := days * day
		if at+day > api.MaxTime {
			break
		}
		parses(t, date+"T00:00:00Z", at)
		parses(t, date+"T23:59:59.999999999Z", at+day-1)
	}
}

// 3.1: each digit behind the point has its place.
func TestParseFraction(t *testing.T) {
	for long := 1; long <= 9; long++ {
		for n := range 50 {
			digits := pad(odd(n, second-1), 9)[:long]
			want, _ := strconv.Atoi(digits + strings.Repeat("0", 9-long))
			parses(t, "1970-01-01T00:00:00."+digits+"Z", want)
			parses(t, "1999-12-31T23:59:59."+digits+"-10:30", 946722599*second+want)
		}
	}
}

// 3.1: what + says is taken off, and what - says goes on top.
func TestParseZone(t *testing.T) {
	const noon = "2003-10-11T12:00:00"
	at, _ := stamp.Parse(noon + "Z")
	for minutes := -1439; minutes <= 1439; minutes++ {
		parses(t, noon+zone(minutes), at-minutes*minute)
	}
	for _, x := range []struct {
		s    string
		want int
	}{
		{"1969-12-31T00:01:00-23:59", 0}, {"1969-12-31T23:59:00-00:01", 0}, {"1969-12-31T23:59:59.5-00:01", 59*second + 500000000},
		{"1970-01-01T23:59:00+23:59", 0}, {"1970-01-01T00:01:00+00:01", 0},
		{"2043-01-26T23:55:49.213693952+23:59", api.MaxTime}, {"2043-01-24T23:57:49.213693952-23:59", api.MaxTime},
		{"2000-02-29T00:30:00+01:00", 951780600 * second}, {"2000-02-28T23:30:00-01:00", 951784200 * second},
	} {
		parses(t, x.s, x.want)
	}
}

// 3.1: stamps of what is no time.
func TestParseNoTime(t *testing.T) {
	for _, s := range []string{
		"1969-12-31T23:59:59Z", "1969-12-31T23:59:59.999999999Z", "1970-01-01T00:00:00+00:01", "1970-01-01T23:58:59.999999999+23:59",
		"1969-12-31T00:00:59.999999999-23:59", "1969-12-30T23:59:59-23:59", "1968-02-29T00:00:00Z", "1900-01-01T00:00:00Z",
		"0000-01-01T00:00:00Z", "0000-02-29T00:00:00Z", "0001-01-01T00:00:00+23:59",
		"2043-01-25T23:56:49.213693953Z", "2043-01-25T23:56:49.3Z", "2043-01-25T23:56:50Z", "2043-01-26T00:00:00Z",
		"2043-01-25T23:56:00-00:01", "2043-01-26T23:55:49.213693953+23:59", "2044-01-01T00:00:00Z",
		"2262-04-12T00:00:00Z", "2554-07-21T23:34:33.709551616Z", "2584-01-01T00:00:00Z", "3139-02-09T00:00:00Z", "9999-12-31T23:59:59.999999999-23:59",
	} {
		noStamp(t, s)
	}
	for year := range 10000 { // of none the nanoseconds may wrap round
		if year < 1969 || year > 2043 {
			noStamp(t, pad(year, 4)+"-06-15T12:34:56.789Z")
			noStamp(t, pad(year, 4)+"-12-31T23:59:59-23:59")
			noStamp(t, pad(year, 4)+"-01-01T00:00:00+23:59")
		}
	}
}

// 3.1
func TestParseDaysOfMonths(t *testing.T) {
	for _, year := range []int{1970, 1971, 1972, 1976, 1999, 2000, 2001, 2004, 2038, 2040, 2042} {
		for month := range 100 {
			for of := range 100 {
				s := pad(year, 4) + "-" + pad(month, 2) + "-" + pad(of, 2) + "T01:02:03Z"
				right := month >= 1 && month <= 12 && of >= 1 && of <= lastOf(year, month)
				n, c := stamp.Parse(s)
				if right != (c == api.OK) || !right && (n != 0 || c != api.ErrStamp) {
					t.Errorf("Parse(%q) = %d, %d", s, n, c)
				}
			}
		}
	}
}

// 3.1
func TestParseClocks(t *testing.T) {
	for n := range 100 {
		for _, x := range []struct {
			s    string
			most int
		}{
			{"2003-10-11T" + pad(n, 2) + ":14:15Z", 23}, {"2003-10-11T22:" + pad(n, 2) + ":15Z", 59}, {"2003-10-11T22:14:" + pad(n, 2) + "Z", 59},
			{"2003-10-11T22:14:15+" + pad(n, 2) + ":00", 23}, {"2003-10-11T22:14:15-" + pad(n, 2) + ":59", 23},
			{"2003-10-11T22:14:15+00:" + pad(n, 2), 59}, {"2003-10-11T22:14:15-23:" + pad(n, 2), 59},
		} {
			if n > x.most {
				noStamp(t, x.s)
			} else if _, c := stamp.Parse(x.s); c != api.OK {
				t.Errorf("Parse(%q): %d", x.s, c)
			}
		}
	}
}

// 3.1: texts that are no stamps.
func TestParseNoStamp(t *testing.T) {
	for _, s := range []string{
		"", "Z", "T", "-", "2003", "2003-10-11", "2003-10-11T", "22:14:15Z", "2003-10-11T22:14Z", "2003-10-11T22:14:15",
		"2003-10-11T22:14:15.003", "2003-10-11T22:14:15.", "2003-10-11T22:14:15.Z", "2003-10-11T22:14:15.+02:00",
		"2003-10-11T22:14:15.0000000000Z", "2003-10-11T22:14:15.1234567890Z", "2003-10-11T22:14:15,003Z", "2003-10-11T22:14:15..3Z", "2003-10-11T22:14:15.3.Z",
		"2003-10-11t22:14:15Z", "2003-10-11T22:14:15z", "2003-10-11 22:14:15Z", "2003-10-11T22:14:15 Z", " 2003-10-11T22:14:15Z", "2003-10-11T22:14:15Z ", "2003-10-11T22:14:15Z\n",
		"2003-10-11T22:14:15ZZ", "2003-10-11T22:14:15Z+00:00", "2003-10-11T22:14:15+00:00Z", "2003-10-11T22:14:15+02:00:00",
		"2003-10-11T22:14:15+2:00", "2003-10-11T22:14:15+02", "2003-10-11T22:14:15+02:", "2003-10-11T22:14:15+02:0", "2003-10-11T22:14:15+0200", "2003-10-11T22:14:15+", "2003-10-11T22:14:15-",
		"2003-10-11T22:14:15+02-00", "2003-10-11T22:14:1502:00", "2003-10-11T22:14:15*02:00", "2003-10-11T22:14:15+-2:00", "2003-10-11T22:14:15+ 2:00", "2003-10-11T22:14:15.5+24:00",
		"203-10-11T22:14:15Z", "02003-10-11T22:14:15Z", "2003-1-11T22:14:15Z", "2003-10-1T22:14:15Z", "2003-10-11T2:14:15Z", "2003-10-11T22:4:15Z", "2003-10-11T22:14:5Z",
		"+2003-10-11T22:14:15Z", "-2003-10-11T22:14:15Z", "+003-10-11T22:14:15Z", "20031011T221415Z", "2003/10/11T22:14:15Z", "2003-10-11T22.14.15Z", "2003:10:11T22:14:15Z",
		"2003-10-11T-2:14:15Z", "2003-+1-11T22:14:15Z", "2003-10-11T22:14:-5Z", "2003-10-11T22:14:15.-03Z", "2003-10-11T22:14:15.00 Z",
		"2003-10-11T22:14:60Z", "2003-10-11T24:00:00Z", "1990-12-31T23:59:60Z", "200\x00-10-11T22:14:15Z", "2003-10-11T22:14:15\x00",
		"２003-10-11T22:14:15Z", "2003-10-11T22:14:1٥Z", "2003‐10‐11T22:14:15Z", "\xff\xfe", strings.Repeat("0", 1<<16), strings.Repeat("2003-10-11T22:14:15Z", 9),
	} {
		noStamp(t, s)
	}
}

// 3.1: a stamp is one no longer when a byte of it goes, is doubled, or is another than it may be.
func TestParseEachByte(t *testing.T) {
	for _, s := range []string{"2003-10-11T22:14:15Z", "2003-10-11T22:14:15.123456789-02:00"} {
		for i := range len(s) {
			noStamp(t, s[:i])
			if i != len(s)-1 {
				noStamp(t, s[i+1:])
			}
			if s[i] < '0' || s[i] > '9' {
				noStamp(t, s[:i]+s[i+1:])
				noStamp(t, s[:i+1]+s[i:])
			}
			for b := range 256 {
				n, c := stamp.Parse(s[:i] + string([]byte{byte(b)}) + s[i+1:])
				digit := b >= '0' && b <= '9'
				sign := b == '+' && s[i:] == "-02:00"
				if c == api.OK && !digit && !sign && byte(b) != s[i] {
					t.Errorf("%q with byte %d put as %d: %d", s, i, b, n)
				}
				if c != api.OK && digit && byte(b) == s[i] {
					t.Errorf("%q: %d", s, c)
				}
			}
		}
	}
	for b := range 256 { // the zone's sign: those two, and Z if nothing follows
		s := "2003-10-11T22:14:15" + string([]byte{byte(b)})
		if _, c := stamp.Parse(s + "02:00"); (c == api.OK) != (b == '+' || b == '-') {
			t.Errorf("Parse(%q): %d", s+"02:00", c)
		}
		if _, c := stamp.Parse(s); (c == api.OK) != (b == 'Z') {
			t.Errorf("Parse(%q): %d", s, c)
		}
	}
}

// 3.2
func TestPrint(t *testing.T) {
	for _, x := range []struct {
		t    int
		want string
	}{
		{0, "1970-01-01T00:00:00Z"}, {1, "1970-01-01T00:00:00.000000001Z"}, {10, "1970-01-01T00:00:00.00000001Z"},
		{100000000, "1970-01-01T00:00:00.1Z"}, {101000000, "1970-01-01T00:00:00.101Z"}, {999999999, "1970-01-01T00:00:00.999999999Z"},
		{second, "1970-01-01T00:00:01Z"}, {minute, "1970-01-01T00:01:00Z"}, {hour, "1970-01-01T01:00:00Z"}, {10 * second, "1970-01-01T00:00:10Z"},
		{day - 1, "1970-01-01T23:59:59.999999999Z"}, {day, "1970-01-02T00:00:00Z"}, {365*day - 1, "1970-12-31T23:59:59.999999999Z"}, {365 * day, "1971-01-01T00:00:00Z"},
		{951825600 * second, "2000-02-29T12:00:00Z"}, {1065910455003000000, "2003-10-11T22:14:15.003Z"},
		{api.MaxTime, lastStamp}, {api.MaxTime - 1, "2043-01-25T23:56:49.213693951Z"},
	} {
		if s, c := stamp.Print(x.t); s != x.want || c != api.OK {
			t.Errorf("Print(%d) = %q, %d", x.t, s, c)
		}
	}
	for days, date := range dates {
		at := days * day
		if at+day > api.MaxTime {
			break
		}
		first, _ := stamp.Print(at)
		last, _ := stamp.Print(at + day - 1)
		if first != date+"T00:00:00Z" || last != date+"T23:59:59.999999999Z" {
			t.Errorf("%s: %q, %q", date, first, last)
		}
	}
	for _, at := range times() {
		want := time.Unix(0, int64(at)).UTC().Format(time.RFC3339Nano)
		if s, c := stamp.Print(at); s != want || c != api.OK {
			t.Errorf("Print(%d) = %q, %d; not %q", at, s, c, want)
		}
	}
	for _, at := range noTimes() {
		if s, c := stamp.Print(at); s != "" || c != api.ErrRange {
			t.Errorf("Print(%d) = %q, %d", at, s, c)
		}
	}
}

// 3.2
func TestShifted(t *testing.T) {
	for _, x := range []struct {
		t, minutes int
		want       string
	}{
		{0, 0, "1970-01-01T00:00:00+00:00"}, {0, 1, "1970-01-01T00:01:00+00:01"}, {0, 1439, "1970-01-01T23:59:00+23:59"},
		{minute, -1, "1970-01-01T00:00:00-00:01"}, {1439 * minute, -1439, "1970-01-01T00:00:00-23:59"}, {minute + 1, -1, "1970-01-01T00:00:00.000000001-00:01"},
		{day - 1, 1, "1970-01-02T00:00:59.999999999+00:01"}, {1065910455003000000, 120, "2003-10-12T00:14:15.003+02:00"},
		{1065910455003000000, -570, "2003-10-11T12:44:15.003-09:30"}, {951782399 * second, 1, "2000-02-29T00:00:59+00:01"},
		{365 * day, -1, "1970-12-31T23:59:00-00:01"}, {api.MaxTime, 0, "2043-01-25T23:56:49.213693952+00:00"},
		{api.MaxTime, 1439, "2043-01-26T23:55:49.213693952+23:59"}, {api.MaxTime, -1439, "2043-01-24T23:57:49.213693952-23:59"},
	} {
		if s, c := stamp.Shifted(x.t, x.minutes); s != x.want || c != api.OK {
			t.Errorf("Shifted(%d, %d) = %q, %d", x.t, x.minutes, s, c)
		}
	}
	for minutes := -1439; minutes <= 1439; minutes++ {
		for _, at := range []int{day, 951782400*second - 1, 1065910455003000000, api.MaxTime, odd(minutes+1439, api.MaxTime-day) + day} {
			want := time.Unix(0, int64(at+minutes*minute)).UTC().Format("2006-01-02T15:04:05.999999999") + zone(minutes)
			if s, c := stamp.Shifted(at, minutes); s != want || c != api.OK {
				t.Errorf("Shifted(%d, %d) = %q, %d; not %q", at, minutes, s, c, want)
			}
		}
	}
}

// 3.2
func TestShiftedRefuses(t *testing.T) {
	for _, at := range noTimes() {
		for _, minutes := range []int{0, 1, -1, 1439, -1439, 1440} {
			noShift(t, at, minutes)
		}
	}
	for _, minutes := range []int{-1440, 1440, -1441, 1441, 1 << 20, -1 << 20, 1 << 40, -1 << 40, 1<<63 - 1, -1 << 63} {
		for _, at := range []int{0, day, 1065910455003000000, api.MaxTime} {
			noShift(t, at, minutes)
		}
	}
	for minutes := 1; minutes <= 1439; minutes++ { // the year would be 1969
		noShift(t, 0, -minutes)
		noShift(t, minutes*minute-1, -minutes)
		if s, c := stamp.Shifted(minutes*minute, -minutes); s != "1970-01-01T00:00:00"+zone(-minutes) || c != api.OK {
			t.Errorf("%d: %q, %d", minutes, s, c)
		}
	}
}

func noShift(t *testing.T, at, minutes int) {
	t.Helper()
	if s, c := stamp.Shifted(at, minutes); s != "" || c != api.ErrRange {
		t.Errorf("Shifted(%d, %d) = %q, %d", at, minutes, s, c)
	}
}

// 3.4
func TestStampsThereAndBack(t *testing.T) {
	for i, at := range times() {
		s, _ := stamp.Print(at)
		parses(t, s, at)
		for _, minutes := range []int{0, -1439, 1439, odd(i, 2878) - 1439} {
			if s, c := stamp.Shifted(at, minutes); c == api.OK {
				parses(t, s, at)
			}
		}
	}
	for _, s := range []string{"1970-01-01T00:00:00Z", "2003-10-11T22:14:15.003Z", "2000-02-29T23:59:59.000000001Z", lastStamp} {
		at, _ := stamp.Parse(s)
		if back, c := stamp.Print(at); back != s || c != api.OK {
			t.Errorf("%q: %q, %d", s, back, c)
		}
	}
	for minutes := -1439; minutes <= 1439; minutes++ {
		for _, clock := range []string{"1970-01-01T23:59:59", "2003-10-12T00:14:15.003", "2000-02-29T23:59:59.1"} {
			s := clock + zone(minutes)
			at, _ := stamp.Parse(s)
			if back, c := stamp.Shifted(at, minutes); back != s || c != api.OK {
				t.Errorf("%q: %q, %d", s, back, c)
			}
		}
	}
}

// 3.4
func TestStampsStandInTheOrderOfTimes(t *testing.T) {
	all := times()
	slices.Sort(all)
	last := map[int]string{}
	for _, at := range slices.Compact(all) {
		s, _ := stamp.Print(at)
		if ahead, ok := last[len(s)]; ok && ahead >= s {
			t.Errorf("%q is not ahead of %q", ahead, s)
		}
		last[len(s)] = s
	}
	if len(last) != 10 { // none to nine digits behind the point
		t.Error(len(last))
	}
}
