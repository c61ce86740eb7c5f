// Package octet writes numbers and texts as bytes, and reads them back.
package octet

import "gong/api"

// The most bytes that a number may have: as groups, and as a wide number.
const (
	mostGroups = 9
	mostWide   = 8
)

// more is set in each byte of groups but the last.
const more = 128

// Groups is n as bytes of seven bits, the highest ones first.
func Groups(n int) (string, api.Code) {
	if n < 0 {
		return "", api.ErrRange
	}
	return groups(n), api.OK
}

func groups(n int) string {
	var room [mostGroups]byte
	at := len(room) - 1
	room[at] = byte(n % more)
	for n /= more; n > 0; n /= more {
		at--
		room[at] = byte(n%more) | more
	}
	return string(room[at:])
}

// Wide is n as w bytes, the highest first.
func Wide(n, w int) (string, api.Code) {
	if w < 1 || w > mostWide || n < 0 {
		return "", api.ErrRange
	}
	var room [mostWide]byte
	for i := len(room) - 1; i >= 0; i-- {
		room[i] = byte(n)
		n >>= 8
	}
	ahead := len(room) - w
	for _, b := range room[:ahead] {
		if b != 0 {
			return "", api.ErrRange
		}
	}
	return string(room[ahead:]), api.OK
}

// Text is how many bytes s has, as groups, and these.
func Text(s string) string {
	return groups(len(s)) + s
}
