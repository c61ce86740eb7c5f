package utf

import (
	"strings"

	"gong/api"
)

// mark is what some programs put ahead of UTF-8.
const mark = "\xEF\xBB\xBF"

// hex are the digits that a byte is shown by.
const hex = "0123456789abcdef"

// Mark is what stands behind the mark that s begins with; s, if there is none.
func Mark(s string) (rest string, ok bool) {
	return strings.CutPrefix(s, mark)
}

// Shown is s as it may be told to people. A backslash stands twice, so that no
// other text is shown as this one is.
func Shown(s string) string {
	var b strings.Builder
	for s != "" {
		c, long, e := First(s)
		switch {
		case e != api.OK:
			long = 1 // none begins there: the next byte may begin one
			fallthrough
		case isControl(c):
			b.WriteString(`\x`)
			b.WriteByte(hex[s[0]/16])
			b.WriteByte(hex[s[0]%16])
		case c == '\\':
			b.WriteString(`\\`)
		default:
			b.WriteString(s[:long])
		}
		s = s[long:]
	}
	return b.String()
}

func isControl(c int) bool {
	return c < 32 || c == 127
}

// Cut is as many characters from the beginning of s as have at most most bytes.
func Cut(s string, most int) (string, api.Code) {
	if most < 0 {
		return "", api.ErrRange
	}
	if e := Check(s); e != api.OK {
		return "", e
	}
	at := min(most, len(s))
	for at < len(s) && follows(s[at]) { // within a character: back to its first byte
		at--
	}
	return s[:at], api.OK
}
