package trap

import (
	"slices"

	"gong/api"
	"gong/ber"
	"gong/pdu"
)

// messageParts is how many a message has: version, community, unit.
const messageParts = 3

// Decode is the trap whose message s is, if its community is one of known.
func Decode(s string, known []string) (api.Trap, api.Code) {
	t, ok := read(s)
	if !ok {
		return api.Trap{}, api.ErrTrap
	}
	if !slices.Contains(known, t.Community) {
		return api.Trap{}, api.ErrWho
	}
	return t, api.OK
}

// read is the trap whose message s is, whoever tells it.
func read(s string) (api.Trap, bool) {
	community, p, ok := open(s)
	if !ok {
		return api.Trap{}, false
	}
	u, e := pdu.Decode(p)
	if e != api.OK || !isTrap(u) {
		return api.Trap{}, false
	}
	return api.Trap{
		Community: community,
		Inform:    u.Tag == pdu.Inform,
		Request:   u.Request,
		Uptime:    u.Binds[0].V.N,
		Id:        u.Binds[1].V.S,
		Binds:     u.Binds[ahead:],
	}, true
}

// open is the community of s, a message, and its unit's element.
func open(s string) (community string, unit ber.Part, ok bool) {
	if len(s) > mostBytes {
		return "", ber.Part{}, false
	}
	p, behind, e := ber.Next(s)
	if e != api.OK || behind != "" {
		return "", ber.Part{}, false
	}
	parts, e := ber.Parts(p.Body)
	if e != api.OK || len(parts) != messageParts {
		return "", ber.Part{}, false
	}
	if v2c != (head{message: p.Tag, version: parts[0], community: parts[1].Tag}) || !isCommunity(parts[1].Body) {
		return "", ber.Part{}, false
	}
	return parts[1].Body, parts[2], true
}

// isTrap tells whether u, which may be, is a trap's: its first binds are held
// against those that a trap of what they tell would have.
func isTrap(u pdu.Unit) bool {
	if u.Tag != pdu.Trap && u.Tag != pdu.Inform || len(u.Binds) < ahead {
		return false
	}
	first, second := u.Binds[0], u.Binds[1]
	return first == uptimeBind(first.V.N) && second == idBind(second.V.S)
}
