package value

import (
	"strconv"
	"strings"

	"gong/api"
	"gong/utf"
)

// point stands between two numbers of an address.
const point = "."

// hex are the digits that a byte of an opaque value is shown by.
const hex = "0123456789abcdef"

// Show is v as it may be told to people.
func Show(v api.Value) (string, api.Code) {
	if !mayBe(v) {
		return "", api.ErrValue
	}
	switch v.Kind {
	case api.VInt:
		return strconv.Itoa(v.N), api.OK
	case api.VCounter, api.VGauge, api.VTicks, api.VBig:
		return strconv.FormatUint(uint64(v.N), 10), api.OK
	case api.VOctets:
		return utf.Shown(v.S), api.OK
	case api.VAddress:
		return numbers(v.S), api.OK
	case api.VOpaque:
		return digits(v.S), api.OK
	}
	return v.S, api.OK
}

// numbers are the bytes of s as such, with points between.
func numbers(s string) string {
	words := make([]string, len(s))
	for i := range words {
		words[i] = strconv.Itoa(int(s[i]))
	}
	return strings.Join(words, point)
}

// digits are the bytes of s, two each.
func digits(s string) string {
	var b strings.Builder
	for i := range len(s) {
		b.WriteByte(hex[s[i]/16])
		b.WriteByte(hex[s[i]%16])
	}
	return b.String()
}
