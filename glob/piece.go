package glob

import "strings"

// escape stands ahead of a byte that stands for itself, whichever it is.
const escape = '\\'

// piece stands for one byte of its set, or (many) for any bytes, also none; the set is
// empty then.
type piece struct {
	set
	many bool
}

// nextPiece reads the first piece of s, which has a byte, and answers what is behind it.
func nextPiece(s string) (x piece, behind string, ok bool) {
	switch s[0] {
	case '*':
		return piece{many: true}, s[1:], true
	case '?':
		return piece{set: set{}.others()}, s[1:], true
	case '[':
		x.set, behind, ok = ranges(s[1:])
		return x, behind, ok
	}
	c, behind, ok := nextByte(s)
	x.add(c, c)
	return x, behind, ok
}

// isOpen tells whether c, with no escape ahead of it, begins a piece that is no byte.
func isOpen(c byte) bool {
	return c == '*' || c == '?' || c == '['
}

// nextByte reads the byte that s begins with, be it escaped or not.
func nextByte(s string) (c byte, behind string, ok bool) {
	if s != "" && s[0] == escape {
		s = s[1:]
	}
	if s == "" {
		return 0, "", false
	}
	return s[0], s[1:], true
}

// ranges reads what stands behind a [, up to the ] that ends it.
func ranges(s string) (x set, behind string, ok bool) {
	behind, but := strings.CutPrefix(s, "!")
	for ended := false; !ended; {
		var first, last byte
		first, last, behind, ok = nextRange(behind)
		if !ok {
			return set{}, "", false
		}
		x.add(first, last)
		behind, ended = strings.CutPrefix(behind, "]")
	}
	if but {
		x = x.others()
	}
	return x, behind, true
}

// nextRange reads a byte, or two with a - between.
func nextRange(s string) (first, last byte, behind string, ok bool) {
	first, behind, ok = rangeByte(s)
	last = first
	if second, two := strings.CutPrefix(behind, "-"); two {
		last, behind, ok = rangeByte(second)
	}
	return first, last, behind, ok && first <= last
}

// rangeByte reads a byte of a range: one that could mean something else there must
// be escaped.
func rangeByte(s string) (c byte, behind string, ok bool) {
	if s != "" && (s[0] == ']' || s[0] == '-') {
		return 0, "", false
	}
	return nextByte(s)
}
