package oid

import (
	"slices"

	"gong/api"
)

// Within tells whether s is within root.
func Within(root, s string) bool {
	_, ok := behind(root, s)
	return ok
}

// Rest is the arcs of s, which is within root, behind those of root, as text.
func Rest(root, s string) (string, api.Code) {
	arcs, ok := behind(root, s)
	if !ok {
		return "", api.ErrOid
	}
	return write(arcs), api.OK
}

// behind is the arcs of s behind those of root, if s is within root.
func behind(root, s string) ([]int, bool) {
	own, arcs, ok := both(root, s)
	if !ok || len(own) > len(arcs) {
		return nil, false
	}
	head, tail := cut(arcs, len(own))
	return tail, slices.Equal(head, own)
}

// both are the arcs of two identifiers, if both are such.
func both(a, b string) (x, y []int, ok bool) {
	x, e := Arcs(a)
	if e != api.OK {
		return nil, nil, false
	}
	y, e = Arcs(b)
	return x, y, e == api.OK
}

// cut is the first n arcs, and those behind them. Each part has no room but its
// own: what is put behind the one is not written over the other.
func cut(arcs []int, n int) (head, tail []int) {
	return arcs[:n:n], arcs[n:len(arcs):len(arcs)]
}

// Less tells whether a stands ahead of b.
func Less(a, b string) bool {
	x, y, ok := both(a, b)
	return ok && slices.Compare(x, y) < 0
}

// Child is s with arc behind.
func Child(s string, arc int) (string, api.Code) {
	arcs, e := Arcs(s)
	if e != api.OK {
		return "", e
	}
	if !isArc(arc) {
		return "", api.ErrRange
	}
	return Text(append(arcs, arc)) // refuses one too many
}
