package check_test

import (
	"fmt"
	"slices"
	"testing"

	"gong/api"
	"gong/check"
)

// many is a book of so many tables, rules and watches that are right.
func many(tables, rules, watches int) (b api.Book) {
	for i := range tables {
		b.Tables = append(b.Tables, api.Table{Name: fmt.Sprint(i), Line: 1000 + i})
	}
	for i := range rules {
		b.Rules = append(b.Rules, api.Rule{Name: fmt.Sprint(i), Line: 2000 + i, From: 1 + i%2, Drop: true})
	}
	for i := range watches {
		b.Watches = append(b.Watches, api.Watch{Name: fmt.Sprint(i), Line: 3000 + i, Kind: 1, Class: "a", Other: "b", Window: 1})
	}
	return b
}

// 16.1: how many tables, rules and watches there may be; too many come ahead of what
// is not right, and have no line.
func TestHowMany(t *testing.T) {
	for _, tables := range []int{0, 1, 63, 64, 65, 5000} {
		for _, rules := range []int{0, 1, 255, 256, 257, 5000} {
			for _, watches := range []int{0, 1, 63, 64, 65, 5000} {
				b := many(tables, rules, watches)
				if tables > 64 || rules > 256 || watches > 64 {
					says(t, b, 0, api.ErrLong)
				} else {
					may(t, b)
				}
			}
		}
	}
	says(t, api.Book{Tables: make([]api.Table, 65)}, 0, api.ErrLong)
	says(t, api.Book{Rules: make([]api.Rule, 257)}, 0, api.ErrLong)
	says(t, api.Book{Watches: make([]api.Watch, 65)}, 0, api.ErrLong)
	b := many(64, 257, 64)
	b.Tables[0].Keys = make([]api.Param, 2000)
	b.Rules[0].From = 0
	b.Watches[0].Kind = 0
	says(t, b, 0, api.ErrLong)
	b.Rules = b.Rules[:256]
	mayNot(t, b, 1000)
}

// spoil makes the part at i of all parts of b, tables ahead of rules ahead of watches,
// one that is not right, and tells its line.
func spoil(b *api.Book, i int) (line int) {
	if i < len(b.Tables) {
		b.Tables[i].Keys = make([]api.Param, 2)
		return b.Tables[i].Line
	}
	i -= len(b.Tables)
	if i < len(b.Rules) {
		b.Rules[i].Tests = make([]api.Test, 1)
		return b.Rules[i].Line
	}
	i -= len(b.Rules)
	b.Watches[i].Window = 0
	return b.Watches[i].Line
}

// 16.1: of several that are not right the first table, then rule, then watch, whatever
// the lines are.
func TestFirstThatIsNotRight(t *testing.T) {
	all := full()
	parts := len(all.Tables) + len(all.Rules) + len(all.Watches)
	for i := range parts {
		for k := i; k < parts; k++ {
			b := full()
			spoil(&b, k)
			line := spoil(&b, i)
			mayNot(t, b, line)
		}
	}
	b := many(64, 256, 64)
	for i := 64 + 256 + 64 - 1; i >= 0; i-- {
		line := spoil(&b, i)
		mayNot(t, b, line)
	}
}

// 16.1: the line is what stands there, whatever it is.
func TestAnyLine(t *testing.T) {
	for _, line := range []int{-1 << 63, -1, 0, 1, 1 << 16, 1<<63 - 1} {
		mayNot(t, api.Book{Tables: []api.Table{{Line: line, Keys: make([]api.Param, 2)}}}, line)
		mayNot(t, api.Book{Rules: []api.Rule{{Line: line}}}, line)
		mayNot(t, api.Book{Watches: []api.Watch{{Line: line}}}, line)
		b := full()
		b.Tables[0].Line, b.Rules[0].Line, b.Watches[0].Line = line, line, line
		may(t, b)
	}
}

// 16.3: what is left of a book that may be used, less rules or watches at its end, may
// be used; so of books that are turned.
func TestWhatIsTakenAway(t *testing.T) {
	books := []api.Book{full(), many(64, 256, 64)}
	turns := slices.Concat(tableTurns(), ruleTurns(), watchTurns(0, 1), watchTurns(1, 2), watchTurns(2, 3), watchTurns(3, 4))
	for _, x := range turns {
		b := full()
		x.do(&b)
		if _, e := check.Check(b); e == api.OK {
			books = append(books, b)
		}
	}
	for _, b := range books {
		for rules := len(b.Rules); rules >= 0; rules-- {
			for _, watches := range []int{len(b.Watches), len(b.Watches) - 1, len(b.Watches) / 2, 1, 0} {
				less := api.Book{Tables: b.Tables, Rules: b.Rules[:rules], Watches: b.Watches[:watches]}
				if line, e := check.Check(less); line != 0 || e != api.OK {
					t.Errorf("Check(%.600s) = %d, %d", fmt.Sprint(less), line, e)
				}
			}
		}
	}
}
