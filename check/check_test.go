package check_test

import (
	"fmt"
	"slices"
	"strings"
	"testing"

	"gong/api"
	"gong/check"
)

func pt(s string) api.Piece                   { return api.Piece{Kind: 1, Text: s} }
func pf(s string) api.Piece                   { return api.Piece{Kind: 2, Text: s} }
func pd(at, s string) api.Piece               { return api.Piece{Kind: 3, Text: s, Table: at} }
func kv(k, v string) api.Param                { return api.Param{Name: k, Value: v} }
func ts(f, g string) api.Test                 { return api.Test{Field: f, Glob: g} }
func not(f, g string) api.Test                { return api.Test{Field: f, Glob: g, Not: true} }
func set(name string, l ...api.Piece) api.Set { return api.Set{Name: name, Pieces: l} }
func sets(l ...api.Set) []api.Set             { return l }

// least is sets as few as may be, and more behind them.
func least(l ...api.Set) []api.Set {
	return append(sets(set("node"), set("class")), l...)
}

// full is a book that may be used, with some of everything. Its lines are in no order,
// and no two the same: each tells what was found.
func full() api.Book {
	return api.Book{
		Tables: []api.Table{{Name: "sev", Line: 70, Keys: []api.Param{kv("a", "5"), kv("b", "0"), kv("", "x")}, Else: "3"}, {Name: "names", Line: 60}, {Name: "r", Line: 50, Keys: []api.Param{kv("a", "a")}}},
		Rules: []api.Rule{
			{Name: "r", Line: 40, From: 1, Oid: "1.3.6.1", Within: true, Tests: []api.Test{ts("source", "10.*"), not("bind#4096", "[!a-c]"), ts("bind.1.3", "")}, Sets: sets(set("text", pt("if "), pd("sev", "bind.1.3"), pf("uptime")), set("node", pf("source")), set("key", pd("names", "trap")), set("class", pt("link")), set("level", pt(""), pt("5")))},
			{Name: "s", Line: 30, From: 2, Tests: []api.Test{ts("sd.a@1.b", "x?"), not("text", "\\*")}, Drop: true},
			{Name: "t", Line: 20, From: 2, Sets: sets(set("class", pf("app")), set("level", pd("sev", "level")), set("node", pf("host")))},
		},
		Watches: []api.Watch{
			{Name: "r", Line: 14, Kind: 1, Class: "down", Other: "up", Window: 30e9},
			{Name: "s", Line: 13, Kind: 2, Class: "a*", Other: "[ab]", Window: 1},
			{Name: "t", Line: 12, Kind: 3, Class: "?", Count: 5, Window: 1 << 57, Raise: "flap", Level: 4, Text: "flapping"},
			{Name: "u", Line: 11, Kind: 4, Class: "beat", Window: 60e9, Raise: "silent", Level: 1},
		},
	}
}

// holds holds Check of b to the chapter's words.
func holds(t *testing.T, b api.Book) {
	t.Helper()
	want, code := plainCheck(b)
	if line, e := check.Check(b); line != want || e != code {
		t.Errorf("Check(%.600s) = %d, %d, and not %d, %d", fmt.Sprint(b), line, e, want, code)
	}
}

// says holds Check of b to what is known.
func says(t *testing.T, b api.Book, want int, code api.Code) {
	t.Helper()
	if line, e := check.Check(b); line != want || e != code {
		t.Errorf("Check(%.600s) = %d, %d, and not %d, %d", fmt.Sprint(b), line, e, want, code)
	}
	holds(t, b)
}

func may(t *testing.T, b api.Book) {
	t.Helper()
	says(t, b, 0, api.OK)
}

func mayNot(t *testing.T, b api.Book, line int) {
	t.Helper()
	says(t, b, line, api.ErrCheck)
}

// 16.1: books that may be used, from nothing on.
func TestBooksThatMayBeUsed(t *testing.T) {
	may(t, api.Book{})
	may(t, full())
	for _, r := range []api.Rule{
		{From: 1, Drop: true}, {From: 2, Drop: true}, {From: 1, Sets: least()}, {From: 2, Sets: least()}, {Name: "\xff", From: 1, Oid: "0.0", Sets: least()}, {From: 1, Oid: "2.999", Within: true, Drop: true},
		{From: 1, Drop: true, Tests: []api.Test{ts("inform", "yes"), ts("inform", "yes"), not("inform", "yes")}},
		{From: 2, Sets: sets(set("class", pt("")), set("node", pt(""), pt(""), pf("sd.a.b")))},
		{From: 1, Sets: least(set("level", pt("0")), set("key", pt("\xff\x00")), set("text", pt(strings.Repeat("a", 1<<17))))},
	} {
		may(t, api.Book{Rules: []api.Rule{r}})
	}
}

// turn is a change of full, and whether it may be used then.
type turn struct {
	what string
	ok   bool
	do   func(b *api.Book)
}

// tableTurns are those of its tables: the wrong ones of the second, whose line is 60.
func tableTurns() []turn {
	keys := func(n int) func(b *api.Book) {
		return func(b *api.Book) {
			for i := range n {
				b.Tables[1].Keys = append(b.Tables[1].Keys, kv(fmt.Sprint(i), "x"))
			}
		}
	}
	own := func(l ...api.Param) func(b *api.Book) {
		return func(b *api.Book) { b.Tables[1].Keys = l }
	}
	return []turn{
		{"a table's name again", false, func(b *api.Book) { b.Tables[1].Name = "sev" }},
		{"a rule's name, and a watch's", true, func(b *api.Book) { b.Rules[2].Name, b.Watches[3].Name = "names", "names" }},
		{"a key's name", true, func(b *api.Book) { b.Tables[2].Name = "a" }},
		{"a great name", true, func(b *api.Book) { b.Tables[2].Name = "Sev" }},
		{"no key", true, keys(0)}, {"a key", true, keys(1)}, {"1023 keys", true, keys(1023)}, {"1024 keys", true, keys(1024)}, {"1025 keys", false, keys(1025)}, {"4096 keys", false, keys(4096)},
		{"a key twice", false, own(kv("a", "b"), kv("a", "c"))}, {"a key twice, with others between", false, own(kv("a", "b"), kv("c", "b"), kv("d", "b"), kv("a", "b"))}, {"a key of nothing twice", false, own(kv("", ""), kv("", ""))},
		{"a value twice", true, own(kv("a", "b"), kv("c", "b"))}, {"a value that is a key", true, own(kv("a", "b"), kv("b", "a"))}, {"keys great and small", true, own(kv("a", ""), kv("A", ""))}, {"another table's key", true, own(kv("b", "c"))},
		{"the 1024th key again", false, func(b *api.Book) { keys(1023)(b); b.Tables[1].Keys = append(b.Tables[1].Keys, kv("0", "")) }},
		{"no else", true, func(b *api.Book) { b.Tables[1].Else = "" }},
	}
}

// ruleTurns are those of its rules: the wrong ones of the first, whose line is 40.
func ruleTurns() []turn {
	var l []turn
	add := func(what string, ok bool, do func(r *api.Rule)) {
		l = append(l, turn{what, ok, func(b *api.Book) { do(&b.Rules[0]) }})
	}
	for _, s := range []string{"1.3", "0.39", "2.4294967215", "", "1" + strings.Repeat(".1", 127)} {
		add("oid "+s, true, func(r *api.Rule) { r.Oid = s })
	}
	for _, s := range []string{"1", "1.", ".1.3", "1.40", "3.1", "01.3", "1.3.06", "1.3a", " ", "x", "1" + strings.Repeat(".1", 128)} {
		add("oid "+s, false, func(r *api.Rule) { r.Oid = s })
	}
	for _, s := range []string{"", "*", "[a]", "\\[", "]", strings.Repeat("a", 256), "\xff\x00"} {
		add("glob "+s, true, func(r *api.Rule) { r.Tests[1].Glob = s })
	}
	for _, s := range []string{"[", "[]", "[!]", "\\", "a\\", "[b-a]", strings.Repeat("a", 257), strings.Repeat("*", 257)} {
		add("glob "+s, false, func(r *api.Rule) { r.Tests[1].Glob = s })
	}
	for _, fields := range []struct {
		ok bool
		l  []string
	}{{true, trapFields}, {true, []string{"source"}}, {false, logFields}, {false, noFields}} {
		for _, s := range fields.l {
			add("field "+s, fields.ok, func(r *api.Rule) { r.Tests[2].Field = s })
			add("piece "+s, fields.ok, func(r *api.Rule) { r.Sets[0].Pieces[2].Text = s })
			add("key "+s, fields.ok, func(r *api.Rule) { r.Sets[0].Pieces[1].Text = s })
			add("text "+s, true, func(r *api.Rule) { r.Sets[0].Pieces[0].Text = s })
			add("level "+s, fields.ok, func(r *api.Rule) { r.Sets[4].Pieces[0] = pf(s) })
		}
	}
	for _, s := range []string{"sev", "names", "r"} {
		add("table "+s, true, func(r *api.Rule) { r.Sets[0].Pieces[1].Table = s })
	}
	for _, s := range []string{"", "Sev", "a", "s", "trap", "sev ", "se"} {
		add("table "+s, false, func(r *api.Rule) { r.Sets[0].Pieces[1].Table = s })
	}
	add("tests of none", true, func(r *api.Rule) { r.Tests = nil })
	add("drop", false, func(r *api.Rule) { r.Drop = true })
	add("drop alone", true, func(r *api.Rule) { r.Drop, r.Sets = true, nil })
	add("nothing", false, func(r *api.Rule) { r.Sets = nil })
	add("a log's", false, func(r *api.Rule) { r.From = 2 })
	add("from nowhere", false, func(r *api.Rule) { r.From = 0 })
	add("from 3", false, func(r *api.Rule) { r.From = 3 })
	add("not within", true, func(r *api.Rule) { r.Within = false })
	for _, s := range []string{"", "Node", "nodes", "line", "name", "id", "source", "drop", "tally"} {
		add("set "+s, false, func(r *api.Rule) { r.Sets[2].Name = s })
	}
	return l
}

// watchTurns are those of its watches: the wrong ones of that at i, of that kind.
func watchTurns(i, kind int) []turn {
	var l []turn
	add := func(what string, ok bool, do func(w *api.Watch)) {
		l = append(l, turn{fmt.Sprintf("kind %d: %s", kind, what), ok, func(b *api.Book) { do(&b.Watches[i]) }})
	}
	two := kind <= 2 // those that have another class
	for _, s := range []string{"a", "*", "[a]", " ", "\xff", strings.Repeat("a", 256)} {
		add("class "+s, true, func(w *api.Watch) { w.Class = s })
		add("other "+s, two, func(w *api.Watch) { w.Other = s })
		add("the same class "+s, two, func(w *api.Watch) { w.Class, w.Other = s, s })
	}
	for _, s := range []string{"", "[", "[!]", "a\\", strings.Repeat("a", 257)} {
		add("class "+s, false, func(w *api.Watch) { w.Class = s })
		add("other "+s, !two && s == "", func(w *api.Watch) { w.Other = s })
	}
	for _, n := range []int{1, 2, 1e9, 1<<57 - 1, 1 << 57} {
		add(fmt.Sprint("window ", n), true, func(w *api.Watch) { w.Window = n })
	}
	for _, n := range []int{0, -1, 1<<57 + 1, 1 << 61, -1 << 63, 1<<63 - 1} {
		add(fmt.Sprint("window ", n), false, func(w *api.Watch) { w.Window = n })
	}
	for _, n := range []int{-1 << 63, -1, 0, 1, 2, 3, 999, 1000, 1001, 1<<63 - 1} {
		add(fmt.Sprint("count ", n), kind == 3 && n >= 2 && n <= 1000 || kind != 3 && n == 0, func(w *api.Watch) { w.Count = n })
	}
	for _, n := range []int{-1 << 63, -1, 0, 1, 2, 3, 4, 5, 6, 1<<63 - 1} {
		add(fmt.Sprint("level ", n), two || n >= 1 && n <= 5, func(w *api.Watch) { w.Level = n })
	}
	for _, s := range []string{"a", "[", "\x00", "\xc3\xa4", strings.Repeat("a", 64), strings.Repeat("\xc3\xa4", 32)} {
		add("raise "+s, !two, func(w *api.Watch) { w.Raise = s })
	}
	for _, s := range []string{strings.Repeat("a", 65), strings.Repeat("\xc3\xa4", 33), "\xff", "a\xc3", "\xed\xa0\x80"} {
		add("raise "+s, false, func(w *api.Watch) { w.Raise = s })
	}
	add("raise nothing", two, func(w *api.Watch) { w.Raise = "" })
	for _, s := range []string{"", "a", "\n", "\xc3\xa4", strings.Repeat("a", 1024), strings.Repeat("\xc3\xa4", 512)} {
		add("text "+s, true, func(w *api.Watch) { w.Text = s })
	}
	for _, s := range []string{strings.Repeat("a", 1025), strings.Repeat("\xc3\xa4", 513), "\xff", "a\xc3", "\xed\xa0\x80", strings.Repeat("a", 1023) + "\xc3"} {
		add("text "+s, two, func(w *api.Watch) { w.Text = s })
	}
	for _, n := range []int{-1 << 63, -1, 0, 5, 6, 257, 1<<63 - 1} {
		add(fmt.Sprint("is of kind ", n), false, func(w *api.Watch) { w.Kind = n })
	}
	return l
}

// 16.1: full with one thing turned: of what is wrong then, its line.
func TestTurnedBooks(t *testing.T) {
	for _, k := range []struct {
		turns []turn
		line  int
	}{
		{tableTurns(), 60}, {ruleTurns(), 40},
		{watchTurns(0, 1), 14}, {watchTurns(1, 2), 13}, {watchTurns(2, 3), 12}, {watchTurns(3, 4), 11},
	} {
		for _, x := range k.turns {
			t.Run(x.what, func(t *testing.T) {
				b := full()
				x.do(&b)
				if x.ok {
					may(t, b)
				} else {
					mayNot(t, b, k.line)
				}
			})
		}
	}
}

// 16.1: names that come again, of tables, rules and watches, each behind each: the line
// is that of the one behind.
func TestNamesOnce(t *testing.T) {
	for _, name := range []string{"", "a", "\xff", strings.Repeat("a", 1<<16)} {
		for i := range 5 {
			for k := range i {
				b := api.Book{}
				for n := range 5 {
					own := fmt.Sprint("n", n)
					if n == i || n == k {
						own = name
					}
					b.Tables = append(b.Tables, api.Table{Name: own, Line: 100 + n})
					b.Rules = append(b.Rules, api.Rule{Name: own, Line: 200 + n, From: 1, Drop: true})
					b.Watches = append(b.Watches, api.Watch{Name: own, Line: 300 + n, Kind: 1, Class: "a", Other: "b", Window: 1})
				}
				mayNot(t, b, 100+i)
				b.Tables = nil
				mayNot(t, b, 200+i)
				b.Rules = nil
				mayNot(t, b, 300+i)
				b.Watches[k].Name = "other"
				may(t, b)
			}
		}
	}
}

// 16.1: rows of sets: node and class, and each but once; with Drop none at all.
func TestSets(t *testing.T) {
	const line = 7
	of := func(drop bool, words ...string) api.Book {
		r := api.Rule{Name: "r", Line: line, From: 2, Drop: drop}
		for _, w := range words {
			r.Sets = append(r.Sets, set(w, pt("1")))
		}
		return api.Book{Rules: []api.Rule{r}}
	}
	for _, k := range []string{"node class", "class node", "text class key node", "node key class level text", "level text node class", "key class node"} {
		may(t, of(false, strings.Fields(k)...))
		mayNot(t, of(true, strings.Fields(k)...), line)
	}
	for _, k := range []string{"", "node", "class", "key level text", "node key level text", "class key level text", "node node", "class class", "node class node", "node class class", "node class key key", "node class level level", "level node class key level", "node class text text", "node class Key", "node class other", "node Class", "key text node"} {
		mayNot(t, of(false, strings.Fields(k)...), line)
	}
	may(t, of(true))
	rows := [][]string{nil}
	for at := 0; at < len(rows); at++ {
		holds(t, of(false, rows[at]...))
		holds(t, of(true, rows[at]...))
		for _, w := range []string{"node", "class", "key", "level", "text", "Node", ""} {
			if len(rows[at]) < 5 {
				rows = append(rows, append(slices.Clone(rows[at]), w))
			}
		}
	}
}

// 16.1: what a level is put together of: texts that make one digit, or what is not
// known ahead of a message.
func TestLevels(t *testing.T) {
	b := func(l ...api.Piece) api.Book {
		return api.Book{Tables: []api.Table{{Name: "t"}}, Rules: []api.Rule{{Name: "r", Line: 3, From: 1, Sets: least(set("level", l...))}}}
	}
	for _, s := range []string{"0", "1", "2", "3", "4", "5"} {
		for _, l := range [][]api.Piece{{pt(s)}, {pt(""), pt(s)}, {pt(s), pt("")}, {pt(""), pt(""), pt(s), pt("")}} {
			may(t, b(l...))
		}
		for _, l := range [][]api.Piece{{pt(s), pt(s)}, {pt("0"), pt(s)}, {pt(" "), pt(s)}, {pt(s), pt("\x00")}, {pt(s), pt(""), pt("0")}} {
			mayNot(t, b(l...), 3)
		}
	}
	for c := range 256 {
		s := string([]byte{byte(c)})
		if c >= '0' && c <= '5' {
			may(t, b(pt(s)))
		} else {
			mayNot(t, b(pt(s)), 3)
		}
		may(t, b(pt(s), pf("uptime")))
	}
	mayNot(t, b(), 3)
	mayNot(t, b(pt("")), 3)
	mayNot(t, b(pt(""), pt("")), 3)
	mayNot(t, b(pt(strings.Repeat("3", 1<<16))), 3)
	mayNot(t, b(pt("\xd9\xa3")), 3)
	pieces := []api.Piece{pt(""), pt("3"), pt("6"), pt("33"), pf("uptime"), pf("level"), pd("t", "uptime"), pd("u", "uptime"), pd("t", "level"), {Kind: 0, Text: "3"}}
	rows := [][]api.Piece{nil}
	for at := 0; at < len(rows); at++ {
		holds(t, b(rows[at]...))
		for _, p := range pieces {
			if len(rows[at]) < 3 {
				rows = append(rows, append(slices.Clone(rows[at]), p))
			}
		}
	}
	may(t, b(pt("33"), pf("uptime")))
	may(t, b(pd("t", "uptime"), pt("6")))
	mayNot(t, b(pd("u", "uptime")), 3)
	// The level is that of a level alone.
	for _, name := range []string{"key", "text"} {
		may(t, api.Book{Rules: []api.Rule{{From: 1, Sets: least(set(name, pt("9")), set("level", pt("1")))}}})
	}
}

// 16.1: watches of each kind with all of some values.
func TestWatches(t *testing.T) {
	for kind := range 6 {
		for _, class := range []string{"", "a", "["} {
			for _, other := range []string{"", "b", "[!]"} {
				for _, count := range []int{-1, 0, 1, 2, 1000, 1001} {
					for _, window := range []int{0, 1, 1 << 57, 1<<57 + 1} {
						for _, raise := range []string{"", "c", "\xff", strings.Repeat("c", 65)} {
							for level := range 7 {
								for _, text := range []string{"", "d", "\xff"} {
									holds(t, api.Book{Watches: []api.Watch{{Name: "w", Line: 5, Kind: kind, Class: class, Other: other, Count: count, Window: window, Raise: raise, Level: level, Text: text}}})
								}
							}
						}
					}
				}
			}
		}
	}
}
