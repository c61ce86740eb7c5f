package parse_test

import (
	"fmt"
	"math"
	"slices"
	"strings"
	"testing"

	"gong/api"
	"gong/lex"
	"gong/parse"
)

// without is b without its lines.
func without(b api.Book) api.Book {
	b = api.Book{Tables: slices.Clone(b.Tables), Rules: slices.Clone(b.Rules), Watches: slices.Clone(b.Watches)}
	for i := range b.Tables {
		b.Tables[i].Line = 0
	}
	for i := range b.Rules {
		b.Rules[i].Line = 0
	}
	for i := range b.Watches {
		b.Watches[i].Line = 0
	}
	return b
}

// tokensOf are the tokens of s, without their lines, in some order.
func tokensOf(t *testing.T, s string) []string {
	t.Helper()
	l := wordsOf(t, s)
	slices.Sort(l)
	return l
}

// prints holds Print of b, and what it reads like, to the chapter's words.
func prints(t *testing.T, b api.Book) {
	t.Helper()
	want, code := plainPrint(b)
	s, e := parse.Print(b)
	if e != code || e != api.OK && s != "" || len(s) != len(want) {
		t.Errorf("Print(%.600s) = %.400q, %d, and not %.400q, %d", fmt.Sprint(b), s, e, want, code)
		return
	}
	if e != api.OK {
		return
	}
	back, line, e := parse.Parse(s)
	if !plainSame(without(back), without(b)) || line != 0 || e != api.OK {
		t.Errorf("Parse(%.400q) = %.600s, %d, %d, and not %.600s", s, fmt.Sprint(back), line, e, fmt.Sprint(b))
	}
	l, _, _ := lex.Split(s)
	if laid, _ := lex.Print(l); laid != s {
		t.Errorf("%.400q is not laid so: %.400q", s, laid)
	}
	if !slices.Equal(tokensOf(t, s), tokensOf(t, want)) {
		t.Errorf("Print(%.600s) = %.400q, and not %.400q", fmt.Sprint(b), s, want)
	}
}

// printed is what Print is to answer of b.
func printed(t *testing.T, b api.Book, want string) {
	t.Helper()
	prints(t, b)
	if s, e := parse.Print(b); s != want || e != api.OK {
		t.Errorf("Print(%.600s) = %.400q, %d, and not %.400q", fmt.Sprint(b), s, e, want)
	}
}

// unprinted holds Print of b to a refusal.
func unprinted(t *testing.T, b api.Book, code api.Code) {
	t.Helper()
	if s, e := parse.Print(b); s != "" || e != code {
		t.Errorf("Print(%.600s) = %.400q, %d, and not %d", fmt.Sprint(b), s, e, code)
	}
}

// 15.2: books whose clauses can stand in one order only, as they are laid.
func TestPrint(t *testing.T) {
	printed(t, api.Book{}, "")
	printed(t, tables(api.Table{Name: "t"}), "table t {\n}\n")
	printed(t, tables(api.Table{Name: "t", Keys: []api.Param{kv("a", "\n"), kv("", "\xff")}, Else: "\"", Line: 7}, api.Table{Name: "s", Else: "e"}), "table t {\n\"a\" = \"\\n\" ;\n\"\" = \"\\xff\" ;\nelse \"\\\"\" ;\n}\ntable s {\nelse \"e\" ;\n}\n")
	printed(t, rules(api.Rule{Name: "r", From: 1}), "rule r trap {\n}\n")
	printed(t, rules(api.Rule{Name: "r-_9", From: 2}, api.Rule{Name: "R", From: 1, Oid: "1.3"}), "rule r-_9 log {\n}\nrule R trap is 1.3 {\n}\n")
	printed(t, rules(api.Rule{Name: "r", From: 1, Oid: "1.3", Within: true, Drop: true}), "rule r trap within 1.3 {\ndrop ;\n}\n")
	printed(t, rules(api.Rule{Name: "r", From: 2, Tests: []api.Test{ts("a", "b"), not("bind#1", "")}}), "rule r log {\ntest $a like \"b\" ;\ntest $bind#1 unlike \"\" ;\n}\n")
	printed(t, rules(api.Rule{Name: "r", From: 2, Sets: sets(set("a", pt("")), set("b", pf("c"), pd("t", "c"), pt("d")))}), "rule r log {\nset a = \"\" ;\nset b = $c + t ( $c ) + \"d\" ;\n}\n")
	printed(t, watches(api.Watch{Name: "w", Kind: 1}, api.Watch{Name: "w", Kind: 2, Class: "a"}, api.Watch{Name: "w", Kind: 3, Other: "a"}, api.Watch{Name: "w", Kind: 4, Count: 5}), "watch w pair {\n}\nwatch w suppress {\nclass \"a\" ;\n}\nwatch w threshold {\nother \"a\" ;\n}\nwatch w absence {\ncount 5 ;\n}\n")
	printed(t, watches(api.Watch{Name: "w", Kind: 1, Window: 90 * second}), "watch w pair {\nwindow 90s ;\n}\n")
	printed(t, watches(api.Watch{Name: "w", Kind: 1, Raise: "a"}, api.Watch{Name: "w", Kind: 1, Raise: "a", Level: 999999, Text: "b"}), "watch w pair {\nraise \"a\" 0 \"\" ;\n}\nwatch w pair {\nraise \"a\" 999999 \"b\" ;\n}\n")
	prints(t, wholeBook())
	prints(t, full())
}

// full is a book with all that there is.
func full() api.Book {
	return api.Book{
		Tables: []api.Table{{Name: "t", Line: 3, Keys: []api.Param{kv("a", "b"), kv("c", "")}, Else: "d"}, {Name: "u", Line: 4}},
		Rules: []api.Rule{
			{Name: "r", Line: 5, From: 1, Oid: "1.3", Within: true, Tests: []api.Test{ts("a", "b"), not("c", "d")}, Sets: sets(set("e", pt("f"), pf("g"), pd("h", "i")), set("j", pf("k"))), Drop: true},
			{Name: "s", Line: 6, From: 2},
		},
		Watches: []api.Watch{{Name: "w", Line: 7, Kind: 3, Class: "a", Other: "b", Count: 4, Window: 5 * second, Raise: "c", Level: 6, Text: "d"}, {Name: "v", Line: 8, Kind: 1}},
	}
}

// turned are books made of full by turning one thing, each named.
func turned() map[string]func(b *api.Book) {
	m := map[string]func(b *api.Book){}
	for i, s := range []string{"", "1", "a b", "a ", " a", "a;", "a.b", "a#", "$a", "\"a\"", "-a", "_a", "\xff", "a\x00", "{", "t", "Z-_9", "rule", "1.3", "1.3 ", "1a", "a@.#-_"} {
		of := func(what string, turn func(b *api.Book)) { m[fmt.Sprintf("%s %d %q", what, i, s)] = turn }
		of("table", func(b *api.Book) { b.Tables[1].Name = s })
		of("key", func(b *api.Book) { b.Tables[0].Keys[1].Name = s })
		of("value", func(b *api.Book) { b.Tables[0].Keys[0].Value = s })
		of("else", func(b *api.Book) { b.Tables[1].Else = s })
		of("rule", func(b *api.Book) { b.Rules[1].Name = s })
		of("oid", func(b *api.Book) { b.Rules[0].Oid = s })
		of("oid is", func(b *api.Book) { b.Rules[0].Oid, b.Rules[0].Within = s, false })
		of("oid log", func(b *api.Book) { b.Rules[1].Oid = s })
		of("field", func(b *api.Book) { b.Rules[0].Tests[1].Field = s })
		of("glob", func(b *api.Book) { b.Rules[0].Tests[0].Glob = s })
		of("set", func(b *api.Book) { b.Rules[0].Sets[1].Name = s })
		of("text", func(b *api.Book) { b.Rules[0].Sets[0].Pieces[0].Text = s })
		of("text's table", func(b *api.Book) { b.Rules[0].Sets[0].Pieces[0].Table = s })
		of("set's field", func(b *api.Book) { b.Rules[0].Sets[0].Pieces[1].Text = s })
		of("field's table", func(b *api.Book) { b.Rules[0].Sets[0].Pieces[1].Table = s })
		of("table's field", func(b *api.Book) { b.Rules[0].Sets[0].Pieces[2].Text = s })
		of("set's table", func(b *api.Book) { b.Rules[0].Sets[0].Pieces[2].Table = s })
		of("watch", func(b *api.Book) { b.Watches[1].Name = s })
		of("class", func(b *api.Book) { b.Watches[0].Class = s })
		of("other", func(b *api.Book) { b.Watches[0].Other = s })
		of("raise", func(b *api.Book) { b.Watches[0].Raise = s })
		of("raise alone", func(b *api.Book) { b.Watches[1].Raise = s })
		of("raise, level", func(b *api.Book) { b.Watches[0].Raise, b.Watches[0].Text = s, "" })
		of("raise, text", func(b *api.Book) { b.Watches[0].Raise, b.Watches[0].Level = s, 0 })
		of("what is told", func(b *api.Book) { b.Watches[0].Text = s })
		of("what is told alone", func(b *api.Book) { b.Watches[1].Text = s })
	}
	for _, n := range []int{0, 1, 2, 3, 4, 5, -1, 99, 999999, 1000000, 1 << 20, 1 << 57, 1 << 61, 1<<61 + 1, -1 << 63, math.MaxInt, 999999999, 1000000000, 1000000001, 60 * second, 999999999 * second, 1000000000 * second, 26688 * 86400 * second, 26689 * 86400 * second, -second} {
		of := func(what string, turn func(b *api.Book)) { m[fmt.Sprintf("%s %d", what, n)] = turn }
		of("from", func(b *api.Book) { b.Rules[1].From = n })
		of("from oid", func(b *api.Book) { b.Rules[0].From = n })
		of("from is", func(b *api.Book) { b.Rules[0].From, b.Rules[0].Within = n, false })
		for i := range 3 {
			of(fmt.Sprint("kind of piece", i), func(b *api.Book) { b.Rules[0].Sets[0].Pieces[i].Kind = n })
		}
		of("kind", func(b *api.Book) { b.Watches[1].Kind = n })
		of("count", func(b *api.Book) { b.Watches[0].Count = n })
		of("window", func(b *api.Book) { b.Watches[0].Window = n })
		of("level", func(b *api.Book) { b.Watches[0].Level = n })
		of("level alone", func(b *api.Book) { b.Watches[1].Level = n })
		of("line of a table", func(b *api.Book) { b.Tables[0].Line = n })
		of("line of a rule", func(b *api.Book) { b.Rules[0].Line = n })
		of("line of a watch", func(b *api.Book) { b.Watches[0].Line = n })
	}
	m["within"] = func(b *api.Book) { b.Rules[0].Within = false }
	m["within log"] = func(b *api.Book) { b.Rules[1].Within = true }
	m["within nothing"] = func(b *api.Book) { b.Rules[0].Oid = "" }
	m["trap within nothing"] = func(b *api.Book) { b.Rules[1].From, b.Rules[1].Within = 1, true }
	m["drop"] = func(b *api.Book) { b.Rules[0].Drop = false }
	m["drop alone"] = func(b *api.Book) { b.Rules[1].Drop = true }
	m["not"] = func(b *api.Book) { b.Rules[0].Tests[0].Not = true }
	m["like"] = func(b *api.Book) { b.Rules[0].Tests[1].Not = false }
	m["no pieces"] = func(b *api.Book) { b.Rules[0].Sets[1].Pieces = nil }
	m["no pieces, empty"] = func(b *api.Book) { b.Rules[0].Sets[0].Pieces = []api.Piece{} }
	m["a piece that is nothing"] = func(b *api.Book) { b.Rules[0].Sets[1].Pieces[0] = api.Piece{} }
	m["an empty set"] = func(b *api.Book) { b.Rules[1].Sets = []api.Set{{}} }
	m["no keys"] = func(b *api.Book) { b.Tables[0].Keys = nil }
	m["one key less"] = func(b *api.Book) { b.Tables[0].Keys = b.Tables[0].Keys[:1] }
	m["no tests"] = func(b *api.Book) { b.Rules[0].Tests = nil }
	m["one test less"] = func(b *api.Book) { b.Rules[0].Tests = b.Rules[0].Tests[1:] }
	m["a test that is nothing"] = func(b *api.Book) { b.Rules[1].Tests = make([]api.Test, 1) }
	m["no sets"] = func(b *api.Book) { b.Rules[0].Sets = nil }
	m["one set less"] = func(b *api.Book) { b.Rules[0].Sets = b.Rules[0].Sets[:1] }
	m["one piece less"] = func(b *api.Book) { b.Rules[0].Sets[0].Pieces = b.Rules[0].Sets[0].Pieces[:2] }
	m["one table less"] = func(b *api.Book) { b.Tables = b.Tables[:1] }
	m["one rule less"] = func(b *api.Book) { b.Rules = b.Rules[1:] }
	m["one watch less"] = func(b *api.Book) { b.Watches = b.Watches[:1] }
	m["other order of tables"] = func(b *api.Book) { slices.Reverse(b.Tables) }
	m["other order of keys"] = func(b *api.Book) { slices.Reverse(b.Tables[0].Keys) }
	m["other order of rules"] = func(b *api.Book) { slices.Reverse(b.Rules) }
	m["other order of tests"] = func(b *api.Book) { slices.Reverse(b.Rules[0].Tests) }
	m["other order of sets"] = func(b *api.Book) { slices.Reverse(b.Rules[0].Sets) }
	m["other order of pieces"] = func(b *api.Book) { slices.Reverse(b.Rules[0].Sets[0].Pieces) }
	m["other order of watches"] = func(b *api.Book) { slices.Reverse(b.Watches) }
	m["a table that is nothing"] = func(b *api.Book) { b.Tables = append(b.Tables, api.Table{}) }
	m["a rule that is nothing"] = func(b *api.Book) { b.Rules = append(b.Rules, api.Rule{}) }
	m["a watch that is nothing"] = func(b *api.Book) { b.Watches = append(b.Watches, api.Watch{}) }
	return m
}

// 15.2: whatever is turned in a book: what may not be is refused, and all else is
// printed and read again.
func TestTurnedBooks(t *testing.T) {
	right, wrong := 0, 0
	for _, turn := range turned() {
		b := full()
		turn(&b)
		prints(t, b)
		if _, e := parse.Print(b); e == api.OK {
			right++
		} else {
			wrong++
		}
	}
	if right < 300 || wrong < 200 {
		t.Error(right, wrong)
	}
}

// 15.2: what may not be is refused.
func TestPrintRefuses(t *testing.T) {
	for _, s := range []string{"", "1", "a b", "$a", "a.b", "a;", "\xff", "a\n", "\"a\""} {
		unprinted(t, tables(api.Table{Name: s}), api.ErrRule)
		unprinted(t, rules(api.Rule{Name: s, From: 1}), api.ErrRule)
		unprinted(t, watches(api.Watch{Name: s, Kind: 1}), api.ErrRule)
		unprinted(t, rules(api.Rule{Name: "r", From: 1, Sets: sets(set(s, pt("a")))}), api.ErrRule)
		unprinted(t, rules(api.Rule{Name: "r", From: 1, Sets: sets(set("a", pd(s, "a")))}), api.ErrRule)
	}
	for _, s := range []string{"", "a b", "$a", "a;", "\xff", "a\n", "\"a\"", "a "} {
		unprinted(t, rules(api.Rule{Name: "r", From: 1, Tests: []api.Test{ts(s, "")}}), api.ErrRule)
		unprinted(t, rules(api.Rule{Name: "r", From: 1, Sets: sets(set("a", pf(s)))}), api.ErrRule)
		unprinted(t, rules(api.Rule{Name: "r", From: 1, Sets: sets(set("a", pd("t", s)))}), api.ErrRule)
	}
	for _, s := range []string{"a", "1 ", ".1", "1;", "-1", "1-", "\"1\"", "$1"} {
		unprinted(t, rules(api.Rule{Name: "r", From: 1, Oid: s}), api.ErrRule)
		unprinted(t, rules(api.Rule{Name: "r", From: 1, Oid: s, Within: true}), api.ErrRule)
	}
	unprinted(t, rules(api.Rule{Name: "r", From: 1, Within: true}), api.ErrRule)
	unprinted(t, rules(api.Rule{Name: "r", From: 2, Within: true}), api.ErrRule)
	unprinted(t, rules(api.Rule{Name: "r", From: 2, Oid: "1"}), api.ErrRule)
	unprinted(t, rules(api.Rule{Name: "r", From: 2, Oid: "1", Within: true}), api.ErrRule)
	unprinted(t, rules(api.Rule{Name: "r", From: 1, Sets: sets(set("a"))}), api.ErrRule)
	unprinted(t, rules(api.Rule{Name: "r", From: 1, Sets: sets(set("a", api.Piece{Kind: 1, Text: "a", Table: "t"}))}), api.ErrRule)
	unprinted(t, rules(api.Rule{Name: "r", From: 1, Sets: sets(set("a", api.Piece{Kind: 2, Text: "a", Table: "t"}))}), api.ErrRule)
	for _, n := range []int{0, -1, 3, 4, 5, 1 << 40} {
		unprinted(t, rules(api.Rule{Name: "r", From: n}), api.ErrRule)
		if n != 3 {
			unprinted(t, rules(api.Rule{Name: "r", From: 1, Sets: sets(set("a", api.Piece{Kind: n, Text: "a"}))}), api.ErrRule)
		}
		if n < 1 || n > 4 {
			unprinted(t, watches(api.Watch{Name: "w", Kind: n}), api.ErrRule)
		}
	}
	for _, n := range []int{-1, 1000000, 1 << 40, math.MinInt, math.MaxInt} {
		unprinted(t, watches(api.Watch{Name: "w", Kind: 1, Count: n}), api.ErrRule)
		unprinted(t, watches(api.Watch{Name: "w", Kind: 1, Level: n, Raise: "a"}), api.ErrRule)
	}
	for _, n := range []int{-1, 1000000001, 1<<61 + 1, 1 << 57, math.MinInt, math.MaxInt} {
		unprinted(t, watches(api.Watch{Name: "w", Kind: 1, Window: n}), api.ErrRule)
	}
	unprinted(t, watches(api.Watch{Name: "w", Kind: 1, Level: 1}), api.ErrRule)
	unprinted(t, watches(api.Watch{Name: "w", Kind: 1, Text: "a"}), api.ErrRule)
	unprinted(t, watches(api.Watch{Name: "w", Kind: 1, Level: 1, Text: "a"}), api.ErrRule)
}

// 15.2: the most tokens that a file may have, whichever list they are of.
func TestPrintMostTokens(t *testing.T) {
	for _, k := range []struct {
		b    api.Book
		many int
	}{
		{tables(api.Table{Name: "t", Keys: make([]api.Param, 1023)}), 4096},
		{tables(api.Table{Name: "t", Keys: make([]api.Param, 1022), Else: "a"}), 4095},
		{tables(api.Table{Name: "t", Keys: make([]api.Param, 1023), Else: "a"}), 4099},
		{tables(api.Table{Name: "t", Keys: make([]api.Param, 1024)}), 4100},
		{tables(slices.Repeat([]api.Table{{Name: "t"}}, 1024)...), 4096},
		{tables(slices.Repeat([]api.Table{{Name: "t"}}, 1025)...), 4100},
		{rules(slices.Repeat([]api.Rule{{Name: "r", From: 2}}, 819)...), 4095},
		{rules(slices.Repeat([]api.Rule{{Name: "r", From: 2}}, 820)...), 4100},
		{rules(slices.Repeat([]api.Rule{{Name: "r", From: 1, Drop: true}}, 585)...), 4095},
		{rules(api.Rule{Name: "r", From: 1, Tests: slices.Repeat([]api.Test{ts("a", "")}, 818)}), 4095},
		{rules(api.Rule{Name: "r", From: 1, Oid: "1", Tests: slices.Repeat([]api.Test{ts("a", "")}, 818)}), 4097},
		{rules(api.Rule{Name: "r", From: 1, Sets: sets(set("a", slices.Repeat([]api.Piece{pt("")}, 2044)...))}), 4096},
		{rules(api.Rule{Name: "r", From: 1, Drop: true, Sets: sets(set("a", slices.Repeat([]api.Piece{pf("b")}, 2043)...))}), 4096},
		{rules(api.Rule{Name: "r", From: 1, Sets: sets(set("a", slices.Repeat([]api.Piece{pt("")}, 2045)...))}), 4098},
		{rules(api.Rule{Name: "r", From: 1, Sets: sets(set("a", slices.Repeat([]api.Piece{pd("t", "")}, 2)...))}), 0},
		{watches(slices.Repeat([]api.Watch{{Name: "w", Kind: 1}}, 819)...), 4095},
		{watches(slices.Repeat([]api.Watch{{Name: "w", Kind: 1}}, 820)...), 4100},
		{watches(slices.Repeat([]api.Watch{{Name: "w", Kind: 1, Count: 5}}, 512)...), 4096},
		{watches(slices.Repeat([]api.Watch{{Name: "w", Kind: 1, Count: 5}}, 513)...), 4104},
	} {
		prints(t, k.b)
		switch s, e := parse.Print(k.b); {
		case k.many == 0:
			unprinted(t, k.b, api.ErrRule)
		case k.many > 4096:
			unprinted(t, k.b, api.ErrLong)
		case e != api.OK || len(wordsOf(t, s)) != k.many:
			t.Errorf("%d: %d, %d", k.many, len(wordsOf(t, s)), e)
		}
	}
	for extra := range 12 {
		b := full()
		b.Tables = append(b.Tables, api.Table{Name: "t", Keys: make([]api.Param, 992+extra)})
		prints(t, b)
		b.Rules[1].Drop = true
		prints(t, b)
		b.Watches[1].Other = "x"
		prints(t, b)
	}
}

// 15.2: the most bytes that a file may have, wherever they stand.
func TestPrintMostBytes(t *testing.T) {
	for what, turn := range map[string]func(b *api.Book, s string){
		"table": func(b *api.Book, s string) { b.Tables[1].Name += s },
		"key":   func(b *api.Book, s string) { b.Tables[0].Keys[1].Name += s },
		"else":  func(b *api.Book, s string) { b.Tables[0].Else += s },
		"rule":  func(b *api.Book, s string) { b.Rules[0].Name += s },
		"glob":  func(b *api.Book, s string) { b.Rules[0].Tests[0].Glob += s },
		"oid":   func(b *api.Book, s string) { b.Rules[0].Oid += s },
		"field": func(b *api.Book, s string) { b.Rules[0].Sets[0].Pieces[1].Text += s },
		"class": func(b *api.Book, s string) { b.Watches[0].Class += s },
		"text":  func(b *api.Book, s string) { b.Watches[0].Text += s },
	} {
		ahead, _ := plainPrint(full())
		for extra := -3; extra < 4; extra++ {
			b := full()
			turn(&b, strings.Repeat("a", 65536-len(ahead)+extra))
			prints(t, b)
			if s, e := parse.Print(b); (e == api.OK) != (extra <= 0) || e == api.OK && len(s) != 65536+extra {
				t.Errorf("%s: %d: %d, %d", what, extra, len(s), e)
			}
		}
	}
	for n := 16370; n < 16390; n++ {
		prints(t, tables(api.Table{Name: "t", Else: strings.Repeat("\xff", n)}))
		prints(t, tables(api.Table{Name: "t", Else: strings.Repeat("\"", 2*n)}))
	}
}

// 15.2: are all parts of both the same, lines, too, and the lists in their order?
func TestSame(t *testing.T) {
	same := func(a, b api.Book) {
		t.Helper()
		if want := plainSame(a, b); parse.Same(a, b) != want || parse.Same(b, a) != want {
			t.Errorf("%v, %v: %v", a, b, !want)
		}
	}
	differ := 0
	for what, turn := range turned() {
		a, b := full(), full()
		turn(&b)
		same(a, b)
		same(b, b)
		turn(&a)
		same(a, b)
		if !parse.Same(a, b) {
			t.Error(what)
		}
		if !parse.Same(full(), b) {
			differ++
		}
	}
	if differ < 700 {
		t.Error(differ)
	}
	for _, x := range known {
		for _, y := range known {
			same(x.b, y.b)
		}
	}
	for _, turn := range []func(b *api.Book){
		func(b *api.Book) { b.Tables[0].Line++ }, func(b *api.Book) { b.Tables[1].Line-- }, func(b *api.Book) { b.Rules[0].Line++ }, func(b *api.Book) { b.Rules[1].Line-- }, func(b *api.Book) { b.Watches[0].Line++ }, func(b *api.Book) { b.Watches[1].Line-- },
		func(b *api.Book) { b.Tables[0].Name += "a" }, func(b *api.Book) { b.Tables[1].Else = "a" }, func(b *api.Book) { b.Tables[0].Keys[1].Name = "a" }, func(b *api.Book) { b.Tables[0].Keys[1].Value = "a" }, func(b *api.Book) { b.Tables[1].Keys = make([]api.Param, 1) },
		func(b *api.Book) { b.Rules[0].Name += "a" }, func(b *api.Book) { b.Rules[0].From = 2 }, func(b *api.Book) { b.Rules[0].Oid = "" }, func(b *api.Book) { b.Rules[0].Within = false }, func(b *api.Book) { b.Rules[0].Drop = false },
		func(b *api.Book) { b.Rules[0].Tests[1].Field = "a" }, func(b *api.Book) { b.Rules[0].Tests[1].Glob = "a" }, func(b *api.Book) { b.Rules[0].Tests[1].Not = false }, func(b *api.Book) { b.Rules[1].Tests = make([]api.Test, 1) },
		func(b *api.Book) { b.Rules[0].Sets[1].Name = "a" }, func(b *api.Book) { b.Rules[0].Sets[1].Pieces = nil }, func(b *api.Book) { b.Rules[1].Sets = make([]api.Set, 1) }, func(b *api.Book) { b.Rules[0].Sets[0].Pieces[2].Kind = 1 }, func(b *api.Book) { b.Rules[0].Sets[0].Pieces[2].Text = "a" }, func(b *api.Book) { b.Rules[0].Sets[0].Pieces[2].Table = "a" },
		func(b *api.Book) { b.Watches[0].Name += "a" }, func(b *api.Book) { b.Watches[0].Kind++ }, func(b *api.Book) { b.Watches[0].Class += "a" }, func(b *api.Book) { b.Watches[0].Other += "a" }, func(b *api.Book) { b.Watches[0].Count++ }, func(b *api.Book) { b.Watches[0].Window++ }, func(b *api.Book) { b.Watches[0].Raise += "a" }, func(b *api.Book) { b.Watches[0].Level++ }, func(b *api.Book) { b.Watches[0].Text += "a" },
	} {
		b := full()
		turn(&b)
		if parse.Same(b, full()) || parse.Same(full(), b) || !parse.Same(b, b) {
			t.Error(b)
		}
	}
	if !parse.Same(full(), full()) || !parse.Same(api.Book{}, api.Book{}) || parse.Same(full(), api.Book{}) {
		t.Error("same")
	}
}
