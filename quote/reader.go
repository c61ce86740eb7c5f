package quote

import (
	"strings"

	"gong/api"
)

// reader takes the parts of data from their text, one behind the other, whether
// they may be or not. Once something can't stand where it does, nothing is left
// to read: who reads looks but once, at the end.
type reader struct {
	rest  string
	wrong bool
}

// element reads what stands behind an element's first byte.
func (r *reader) element() api.Element {
	e := api.Element{Id: r.name()}
	for len(e.Params) <= api.MaxItems && r.took(blank) {
		e.Params = append(e.Params, r.param())
	}
	r.mark(closes)
	return e
}

func (r *reader) param() api.Param {
	name := r.name()
	r.mark(equals)
	r.mark(quotes)
	v := r.value()
	r.mark(quotes)
	return api.Param{Name: name, Value: v}
}

// name reads all bytes that a name may have, be they as many as it may have or not.
func (r *reader) name() string {
	return r.cut(nameLong(r.rest))
}

// value reads what is escaped, up to what ends it.
func (r *reader) value() string {
	var b strings.Builder
	for r.rest != "" && r.rest[0] != quotes && r.rest[0] != closes {
		if r.rest[0] == escape && len(r.rest) > 1 && isEscaped(r.rest[1]) {
			r.cut(1)
		}
		b.WriteString(r.cut(1))
	}
	return b.String()
}

// cut reads as many bytes as long tells.
func (r *reader) cut(long int) string {
	s := r.rest[:long]
	r.rest = r.rest[long:]
	return s
}

// mark reads c, which must stand there.
func (r *reader) mark(c byte) {
	if !r.took(c) {
		*r = reader{wrong: true}
	}
}

// took reads c, if it stands there.
func (r *reader) took(c byte) bool {
	if r.rest == "" || r.rest[0] != c {
		return false
	}
	r.cut(1)
	return true
}
