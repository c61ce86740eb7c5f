package check

import (
	"strconv"
	"strings"

	"gong/api"
	"gong/oid"
	"gong/quote"
)

// What fields begin with that do not stand as they are: of traps a bind by its
// identifier, and by its number; of logs structured data.
const (
	bindByOid    = "bind."
	bindByNumber = "bind#"
	dataByName   = "sd."
)

// point parts the id of structured data from a name in it. Ids may have points, too:
// the last one parts them.
const point = "."

// IsField tells whether messages from there have a field of that name.
func IsField(from int, name string) bool {
	switch from {
	case api.FTrap:
		return isTrapField(name)
	case api.FLog:
		return isLogField(name)
	}
	return false
}

func isTrapField(name string) bool {
	switch name {
	case "source", "community", "trap", "uptime", "request", "inform":
		return true
	}
	if id, ok := strings.CutPrefix(name, bindByOid); ok {
		return isOid(id)
	}
	number, ok := strings.CutPrefix(name, bindByNumber)
	return ok && isBindNumber(number)
}

func isLogField(name string) bool {
	switch name {
	case "source", "facility", "level", "stamp", "host", "app", "proc", "id", "text":
		return true
	}
	data, ok := strings.CutPrefix(name, dataByName)
	return ok && isDataName(data)
}

func isOid(s string) bool {
	_, e := oid.Arcs(s)
	return e == api.OK
}

// isBindNumber tells whether s has the digits of a bind's number, without a 0 ahead.
func isBindNumber(s string) bool {
	n, err := strconv.Atoi(s)
	return err == nil && n >= 1 && n <= api.MaxItems && strconv.Itoa(n) == s
}

func isDataName(s string) bool {
	at := strings.LastIndex(s, point)
	return at >= 0 && quote.IsName(s[:at]) && quote.IsName(s[at+len(point):])
}
