package check

import (
	"gong/api"
	"gong/utf"
)

// mostWindow is the longest time that a watch may wait: behind any time it still ends
// within an int.
const mostWindow = 1 << 57

// How many events a threshold may count.
const (
	leastCount = 2
	mostCount  = 1000
)

// Which levels an event of a watch may have: it clears nothing.
const (
	leastRaised = 1
	mostRaised  = 5
)

func watchIsRight(w api.Watch) bool {
	if !isClass(w.Class) || !isFrom(w.Window, 1, mostWindow) {
		return false
	}
	switch w.Kind {
	case api.WPair, api.WSuppress:
		return isClass(w.Other) && w.Count == 0 && w.Raise == ""
	case api.WThreshold:
		return w.Other == "" && isFrom(w.Count, leastCount, mostCount) && raises(w)
	case api.WAbsence:
		return w.Other == "" && w.Count == 0 && raises(w)
	}
	return false
}

// isClass tells whether s is a pattern of classes.
func isClass(s string) bool {
	return s != "" && isGlob(s)
}

func isFrom(n, least, most int) bool {
	return n >= least && n <= most
}

// raises tells whether w has what its events need.
func raises(w api.Watch) bool {
	return isFrom(len(w.Raise), 1, api.MaxName) && len(w.Text) <= api.MaxText &&
		utf.Check(w.Raise) == api.OK && utf.Check(w.Text) == api.OK && isFrom(w.Level, leastRaised, mostRaised)
}
