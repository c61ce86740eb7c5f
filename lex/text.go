package lex

import (
	"strconv"
	"strings"
)

// What begins and ends a text, and what stands ahead of what would end it.
const (
	quotes = '"'
	escape = '\\'
)

// The bytes that stand for themselves when a text is printed; those above may when
// it is read, too.
const (
	firstPlain = 32
	lastPlain  = 126
)

// The digits by which any byte can be told, and how many it has then.
const (
	hexDigits = "0123456789abcdef"
	hexLong   = 2
)

// text reads what stands behind the " that a text begins with.
func text(s string) (t Token, behind string, ok bool) {
	var read strings.Builder
	for s != "" {
		c := s[0]
		s = s[1:]
		switch {
		case c == quotes:
			return Token{Kind: TText, Text: read.String()}, s, true
		case c < firstPlain:
			return Token{}, "", false
		case c == escape:
			c, s, ok = escaped(s)
			if !ok {
				return Token{}, "", false
			}
		}
		read.WriteByte(c)
	}
	return Token{}, "", false
}

// escaped reads which byte is told behind a \.
func escaped(s string) (c byte, behind string, ok bool) {
	if s == "" {
		return 0, "", false
	}
	switch s[0] {
	case quotes, escape:
		return s[0], s[1:], true
	case 'n':
		return '\n', s[1:], true
	case 't':
		return '\t', s[1:], true
	case 'x':
		return hexByte(s[1:])
	}
	return 0, "", false
}

// hexByte reads two hexadecimal digits, small or great.
func hexByte(s string) (c byte, behind string, ok bool) {
	if len(s) < hexLong {
		return 0, "", false
	}
	n, err := strconv.ParseUint(s[:hexLong], 16, 8)
	if err != nil {
		return 0, "", false
	}
	return byte(n), s[hexLong:], true
}

// Quote is the text that is read as s.
func Quote(s string) string {
	var b strings.Builder
	b.WriteByte(quotes)
	for i := range len(s) {
		quote(&b, s[i])
	}
	b.WriteByte(quotes)
	return b.String()
}

// quote puts c behind what b has, as it stands in a text.
func quote(b *strings.Builder, c byte) {
	switch {
	case c == quotes || c == escape:
		b.WriteByte(escape)
		b.WriteByte(c)
	case c == '\n':
		b.WriteString(`\n`)
	case c == '\t':
		b.WriteString(`\t`)
	case c < firstPlain || c > lastPlain:
		b.WriteString(`\x`)
		b.WriteByte(hexDigits[c>>4])
		b.WriteByte(hexDigits[c&15])
	default:
		b.WriteByte(c)
	}
}
