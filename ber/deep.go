package ber

import (
	"strings"

	"gong/api"
)

// Deep is how deep s is, an element whose parts are all looked at. Of what is
// wrong the first is told that stands there, so what is behind the element, last.
func Deep(s string) (int, api.Code) {
	p, behind, e := Next(s)
	if e != api.OK {
		return 0, e
	}
	open := []string{parts(p)} // what is left of each, the outermost first
	deep := 1
through:
	for {
		for open[len(open)-1] == "" {
			open = open[:len(open)-1]
			if len(open) == 0 {
				break through
			}
		}
		last := len(open) - 1
		p, open[last], e = Next(open[last])
		if e != api.OK {
			return 0, e
		}
		if len(open) == api.MaxDeep {
			return 0, api.ErrDeep
		}
		open = append(open, parts(p))
		deep = max(deep, len(open))
	}
	if behind != "" {
		return 0, api.ErrBer
	}
	return deep, api.OK
}

// Canon is the shortest form of s, an element.
func Canon(s string) (string, api.Code) {
	if _, e := Deep(s); e != api.OK {
		return "", e
	}
	return short(s), api.OK
}

// short is s, elements that are no deeper than they may be, each in its shortest
// form.
func short(s string) string {
	var b strings.Builder
	for s != "" {
		p, rest, _ := Next(s)
		if p.Tag&madeOfParts != 0 {
			p.Body = short(p.Body)
		}
		b.WriteString(head(p.Tag, len(p.Body)))
		b.WriteString(p.Body)
		s = rest
	}
	return b.String()
}
