package quote

import (
	"strings"

	"gong/api"
)

// noData is the text of data without an element.
const noData = "-"

// Escape is s as it stands in a text: nothing in it ends the value that it is.
func Escape(s string) string {
	var b strings.Builder
	for i := range len(s) {
		if isEscaped(s[i]) {
			b.WriteByte(escape)
		}
		b.WriteByte(s[i])
	}
	return b.String()
}

func isEscaped(c byte) bool {
	return c == quotes || c == escape || c == closes
}

// Print is the text of data.
func Print(data []api.Element) (string, api.Code) {
	if e := Check(data); e != api.OK {
		return "", e
	}
	if len(data) == 0 {
		return noData, api.OK
	}
	var b strings.Builder
	for _, e := range data {
		if !write(&b, e) {
			return "", api.ErrLong
		}
	}
	return b.String(), api.OK
}

// write puts e behind what b has. It ends as soon as that is too long for a text:
// an element can be many thousand times that.
func write(b *strings.Builder, e api.Element) bool {
	b.WriteByte(opens)
	b.WriteString(e.Id)
	for _, p := range e.Params {
		b.WriteByte(blank)
		b.WriteString(p.Name)
		b.WriteByte(equals)
		b.WriteByte(quotes)
		b.WriteString(Escape(p.Value))
		b.WriteByte(quotes)
		if b.Len() > api.MaxBytes {
			return false
		}
	}
	b.WriteByte(closes)
	return b.Len() <= api.MaxBytes
}

// Parse is the data whose text s begins with, and what stands behind it. One
// element too many, or one param, is read, no more: that is enough for Check.
func Parse(s string) (data []api.Element, rest string, e api.Code) {
	if rest, ok := strings.CutPrefix(s, noData); ok {
		return nil, rest, api.OK
	}
	r := reader{rest: s}
	for len(data) <= api.MaxItems && r.took(opens) {
		data = append(data, r.element())
	}
	if r.wrong || len(data) == 0 || Check(data) != api.OK {
		return nil, "", api.ErrQuote
	}
	return data, r.rest, api.OK
}
