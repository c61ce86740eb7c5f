package pdu

import (
	"gong/api"
	"gong/ber"
	"gong/oid"
	"gong/value"
)

// Decode is the unit whose element is p.
func Decode(p ber.Part) (Unit, api.Code) {
	parts, ok := partsOf(p)
	if !ok || !isTag(p.Tag) || len(parts) != len(numbers{})+1 {
		return Unit{}, api.ErrPdu
	}
	head, ok := readNumbers(parts)
	if !ok || !head.mayBe() {
		return Unit{}, api.ErrPdu
	}
	binds, ok := readBinds(parts[len(head)])
	if !ok {
		return Unit{}, api.ErrPdu
	}
	return Unit{Tag: p.Tag, Request: head[0], Status: head[1], Index: head[2], Binds: binds}, api.OK
}

// partsOf is the parts of p.
func partsOf(p ber.Part) ([]ber.Part, bool) {
	parts, e := ber.Parts(p.Body)
	return parts, e == api.OK
}

// readNumbers is the first of parts, if these are numbers.
func readNumbers(parts []ber.Part) (l numbers, ok bool) {
	for i := range l {
		n, e := ber.Number(parts[i].Body)
		if parts[i].Tag != numberTag || e != api.OK {
			return numbers{}, false
		}
		l[i] = n
	}
	return l, true
}

// readBinds is the binds whose elements stand in p. There are no more of them
// than a unit may have: ber knows the same most.
func readBinds(p ber.Part) ([]api.Bind, bool) {
	parts, ok := partsOf(p)
	if !ok || p.Tag != listTag {
		return nil, false
	}
	binds := make([]api.Bind, len(parts))
	for i, part := range parts {
		b, ok := readBind(part)
		if !ok {
			return nil, false
		}
		binds[i] = b
	}
	return binds, true
}

// readBind is the bind whose element is p.
func readBind(p ber.Part) (api.Bind, bool) {
	parts, ok := partsOf(p)
	if !ok || p.Tag != listTag || len(parts) != 2 || parts[0].Tag != oidTag {
		return api.Bind{}, false
	}
	name, e := oid.Decode(parts[0].Body)
	if e != api.OK {
		return api.Bind{}, false
	}
	v, e := value.Decode(parts[1])
	return api.Bind{Oid: name, V: v}, e == api.OK
}
