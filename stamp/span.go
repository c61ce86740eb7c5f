package stamp

import (
	"strconv"
	"strings"

	"gong/api"
)

// The most digits that a span's number has, and the greatest such number.
const (
	mostDigits = 9
	mostNumber = 999999999
)

// units are what spans are told in, the greatest first.
var units = [...]struct {
	name string
	long int
}{
	{"d", day}, {"h", hour}, {"m", minute}, {"s", second}, {"ms", milli}, {"us", micro}, {"ns", 1},
}

// Span is how many nanoseconds a number and a unit tell.
func Span(s string) (int, api.Code) {
next:
	for _, u := range units {
		number, ok := strings.CutSuffix(s, u.name)
		if !ok || !fits(number) {
			continue
		}
		n := 0
		for i := range len(number) {
			if !isDigit(number[i]) {
				continue next // what ends with ms, us or ns ends with s, too
			}
			n = 10*n + int(number[i]-'0')
		}
		if n > api.MaxTime/u.long {
			break
		}
		return n * u.long, api.OK
	}
	return 0, api.ErrStamp
}

// fits tells whether s is as long as a number may be, without a 0 ahead.
func fits(s string) bool {
	return s == "0" || s != "" && len(s) <= mostDigits && s[0] != '0'
}

// Spell is a span of n nanoseconds, in the greatest unit that divides n.
func Spell(n int) (string, api.Code) {
	if !isTime(n) {
		return "", api.ErrRange
	}
	if n == 0 { // every unit divides it
		return "0s", api.OK
	}
	for _, u := range units {
		if n%u.long != 0 {
			continue
		}
		if n/u.long > mostNumber {
			break
		}
		return strconv.Itoa(n/u.long) + u.name, api.OK
	}
	return "", api.ErrRange
}
