package check

import (
	"gong/api"
	"gong/glob"
)

// What a rule sets: the parts of an event.
const (
	nodePart  = "node"
	classPart = "class"
	keyPart   = "key"
	levelPart = "level"
	textPart  = "text"
)

// The levels, as they are told.
const (
	leastLevel = "0"
	mostLevel  = "5"
)

func ruleIsRight(r api.Rule, tables names) bool {
	if r.Oid != "" && !isOid(r.Oid) {
		return false
	}
	for _, t := range r.Tests {
		if !IsField(r.From, t.Field) || !isGlob(t.Glob) {
			return false
		}
	}
	if r.Drop {
		return len(r.Sets) == 0
	}
	return setsAreRight(r, tables)
}

func isGlob(s string) bool {
	_, e := glob.Parse(s)
	return e == api.OK
}

// setsAreRight tells whether those of r are, which drops nothing.
func setsAreRight(r api.Rule, tables names) bool {
	parts := names{}
	for _, s := range r.Sets {
		if !parts.isNew(s.Name) || !setIsRight(s, r.From, tables) {
			return false
		}
	}
	return parts.has(nodePart) && parts.has(classPart)
}

func setIsRight(s api.Set, from int, tables names) bool {
	for _, p := range s.Pieces {
		if !pieceIsRight(p, from, tables) {
			return false
		}
	}
	switch s.Name {
	case nodePart, classPart, keyPart, textPart:
		return true
	case levelPart:
		return mayBeLevel(s.Pieces)
	}
	return false
}

func pieceIsRight(p api.Piece, from int, tables names) bool {
	switch p.Kind {
	case api.PField:
		return IsField(from, p.Text)
	case api.PTable:
		return IsField(from, p.Text) && tables.has(p.Table)
	}
	return true
}

// mayBeLevel tells whether pieces may make a level. Where not all of them are texts,
// only a message tells what they make.
func mayBeLevel(pieces []api.Piece) bool {
	made := ""
	for _, p := range pieces {
		if p.Kind != api.PText {
			return true
		}
		if len(made) <= len(mostLevel) { // else it is too long already, whatever comes
			made += p.Text
		}
	}
	return len(made) == len(mostLevel) && made >= leastLevel && made <= mostLevel
}
