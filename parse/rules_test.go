package parse_test

import (
	"fmt"
	"math"
	"slices"
	"strings"
	"sync"
	"testing"

	"gong/api"
	"gong/parse"
)

// P1, R5: every call ends at all arguments; what is refused answers nothing.
func TestAllArguments(t *testing.T) {
	const long = 1 << 16
	texts := []string{"", "\x00", "\xff"}
	for _, s := range []string{"table t", "table t{", "table t{}", "\"\"=\"\";", "rule r log{", "set a=", "\"\"+", "$a+", "b($c)+", "drop;", "watch w pair{", "class \"\";", "raise \"", "{", "}", ";", "a ", "1", "\n", "#", "(", "$a", "1 "} {
		for _, ahead := range []string{"", "table t{", "rule r log{", "rule r log{set a=", "watch w pair{", "watch w pair{raise "} {
			for _, n := range []int{1, 2, 100, 4090, long / len(s)} {
				texts = append(texts, ahead+strings.Repeat(s, n), ahead+strings.Repeat(s, n)+"}")
			}
		}
	}
	texts = append(texts, strings.Repeat("a", 1<<20), strings.Repeat("\xff", 1<<20), strings.Repeat("{ ", 1<<20))
	for i := range 300 {
		texts = append(texts, oddBytes(i, 1000*i), "table t{\""+oddBytes(i%9, 1000*i), "rule "+oddBytes(i%5, 3*i))
	}
	for _, s := range texts {
		holds(t, s)
		prints(t, tables(api.Table{Name: s, Keys: []api.Param{kv(s, s)}, Else: s}))
		prints(t, rules(api.Rule{Name: "r", From: 1, Oid: s, Tests: []api.Test{ts(s, s)}, Sets: sets(set(s, pt(s), pf(s), pd(s, s)))}))
		prints(t, rules(api.Rule{Name: "r", From: 1, Tests: []api.Test{ts("a", s)}, Sets: sets(set("a", pt(s)))}))
		prints(t, watches(api.Watch{Name: "w", Kind: 1, Class: s, Other: s, Raise: s, Text: s}))
	}
	for _, n := range []int{math.MinInt, math.MinInt + 1, -1, 0, 1, 5, 1 << 32, math.MaxInt - 1, math.MaxInt} {
		prints(t, rules(api.Rule{Name: "r", From: n, Line: n, Sets: sets(set("a", api.Piece{Kind: n}))}))
		prints(t, watches(api.Watch{Name: "w", Kind: n}, api.Watch{Name: "w", Kind: 1, Count: n, Window: n, Level: n, Line: n}))
		prints(t, tables(api.Table{Name: "t", Line: n}))
	}
	prints(t, api.Book{Tables: make([]api.Table, 5000), Rules: make([]api.Rule, 5000), Watches: make([]api.Watch, 5000)})
	prints(t, rules(api.Rule{Name: "r", From: 1, Tests: make([]api.Test, 5000), Sets: make([]api.Set, 5000)}))
	prints(t, rules(api.Rule{Name: "r", From: 1, Sets: sets(set("a", make([]api.Piece, 5000)...))}))
}

// R1: what chapter 14 refuses comes ahead of what this one does; a book that may not be
// is refused as that, however long it is, and wherever that stands.
func TestFirstWrongThing(t *testing.T) {
	for _, k := range []struct {
		s    string
		line int
		e    api.Code
	}{
		{"}\n-", 2, api.ErrWord}, {"} -", 1, api.ErrWord}, {"watch w pair { count 01; }\n\n$", 3, api.ErrWord}, {strings.Repeat("}\n", 4100), 4097, api.ErrLong}, {"rule r log { drop; drop; }" + strings.Repeat(" ", 1<<16), 0, api.ErrLong},
		{"rule r log {\ndrop;\ndrop\nx }\n}", 3, api.ErrRule}, {"watch w pair {\nclass \"a\";\nclass\n1;\ncount 01; }", 3, api.ErrRule}, {"watch w pair {\ncount\n01\n02;\ncount 01; }", 3, api.ErrRule}, {"watch w pair {\nraise 1\n01; }", 2, api.ErrRule}, {"watch w pair {\nraise \"a\"\n01\n02;\nwindow 1;\n x", 3, api.ErrRule}, {"rule r log { }\nwatch w pair { window\n1; }\ndrop", 3, api.ErrRule}, {"table t { else \"a\";\nelse\n}", 2, api.ErrRule},
	} {
		reads(t, k.s, api.Book{}, k.line, k.e)
		holds(t, k.s)
	}
	for _, many := range []int{1, 5000} {
		b := api.Book{Tables: slices.Repeat([]api.Table{{Name: "t", Else: strings.Repeat("a", 100)}}, many), Rules: slices.Repeat([]api.Rule{{Name: "r", From: 2}}, many), Watches: slices.Repeat([]api.Watch{{Name: "w", Kind: 1}}, many)}
		prints(t, b)
		for _, i := range []int{0, many / 2, many - 1} {
			for _, turn := range []func(b *api.Book){
				func(b *api.Book) { b.Tables[i].Name = "" }, func(b *api.Book) { b.Rules[i].Name = "1" }, func(b *api.Book) { b.Rules[i].From = 0 }, func(b *api.Book) { b.Rules[i].Oid = "1" }, func(b *api.Book) { b.Rules[i].Within = true }, func(b *api.Book) { b.Rules[i].Tests = make([]api.Test, 1) }, func(b *api.Book) { b.Rules[i].Sets = sets(set("a")) }, func(b *api.Book) { b.Rules[i].Sets = sets(set("a", api.Piece{})) },
				func(b *api.Book) { b.Watches[i].Name = "" }, func(b *api.Book) { b.Watches[i].Kind = 0 }, func(b *api.Book) { b.Watches[i].Count = -1 }, func(b *api.Book) { b.Watches[i].Window = -1 }, func(b *api.Book) { b.Watches[i].Level = 1000000 }, func(b *api.Book) { b.Watches[i].Text = "a" },
			} {
				x := api.Book{Tables: slices.Clone(b.Tables), Rules: slices.Clone(b.Rules), Watches: slices.Clone(b.Watches)}
				turn(&x)
				unprinted(t, x, api.ErrRule)
				prints(t, x)
			}
		}
	}
}

// R2: what the chapter does not refuse may be, though chapter 16 will: names that are
// there already, identifiers that are none, fields that nothing has, patterns that are
// none, rules that set nothing or drop and set, sets that come twice, watches that lack
// all, and levels without end.
func TestWhatIsNotRefused(t *testing.T) {
	const s = `table t { "a" = "1"; "a" = "2"; } table t { }
rule r trap is 9..x { set foo = u($x) ; set foo = "9" + $..; drop; test $@ like "[!]"; } rule r log { }
watch w pair { raise "a" 999999 "b"; count 999999; } watch w pair { } watch W absence { other "["; window 1ns; }`
	b, line, e := parse.Parse(s)
	want := api.Book{
		Tables:  []api.Table{{Name: "t", Line: 1, Keys: []api.Param{kv("a", "1"), kv("a", "2")}}, {Name: "t", Line: 1}},
		Rules:   []api.Rule{{Name: "r", Line: 2, From: 1, Oid: "9..x", Tests: []api.Test{ts("@", "[!]")}, Sets: sets(set("foo", pd("u", "x")), set("foo", pt("9"), pf(".."))), Drop: true}, {Name: "r", Line: 2, From: 2}},
		Watches: []api.Watch{{Name: "w", Line: 3, Kind: 1, Count: 999999, Raise: "a", Level: 999999, Text: "b"}, {Name: "w", Line: 3, Kind: 1}, {Name: "W", Line: 3, Kind: 4, Other: "[", Window: 1}},
	}
	if !plainSame(b, want) || line != 0 || e != api.OK {
		t.Error(b, line, e)
	}
	prints(t, want)
	wrong := api.Book{Tables: make([]api.Table, 2), Rules: []api.Rule{{From: -1, Oid: "\xff", Sets: make([]api.Set, 2)}}, Watches: []api.Watch{{Kind: -1, Window: -1}}}
	if !parse.Same(wrong, wrong) || parse.Same(wrong, want) {
		t.Error("same")
	}
}

// R3: lists without an element are the same, be they nil or empty.
func TestNothing(t *testing.T) {
	nils := api.Book{Tables: []api.Table{{Name: "t"}}, Rules: []api.Rule{{Name: "r", From: 2}, {Name: "s", From: 2, Sets: sets(set("a"))}}}
	empties := api.Book{Tables: []api.Table{{Name: "t", Keys: []api.Param{}}}, Rules: []api.Rule{{Name: "r", From: 2, Tests: []api.Test{}, Sets: []api.Set{}}, {Name: "s", From: 2, Tests: []api.Test{}, Sets: sets(set("a", []api.Piece{}...))}}, Watches: []api.Watch{}}
	empties.Rules[1].Sets[0].Pieces = []api.Piece{}
	if !parse.Same(nils, empties) || !parse.Same(empties, nils) || !parse.Same(api.Book{}, api.Book{Tables: []api.Table{}, Rules: []api.Rule{}, Watches: []api.Watch{}}) {
		t.Error("same")
	}
	unprinted(t, nils, api.ErrRule)
	unprinted(t, empties, api.ErrRule)
	nils.Rules, empties.Rules = nils.Rules[:1], empties.Rules[:1]
	a, c := parse.Print(nils)
	b, e := parse.Print(empties)
	if a != b || c != api.OK || e != api.OK {
		t.Error(a, b, c, e)
	}
	printed(t, api.Book{Tables: []api.Table{}, Rules: []api.Rule{}, Watches: []api.Watch{}}, "")
}

// roomy is full, with spare room behind each list, and what stands there.
func roomy() api.Book {
	b := full()
	b.Tables[0].Keys = append(b.Tables[0].Keys, kv("spare", "key"))[:2]
	b.Tables = append(b.Tables, api.Table{Name: "spare table"})[:2]
	b.Rules[0].Tests = append(b.Rules[0].Tests, ts("spare test", ""))[:2]
	b.Rules[0].Sets[0].Pieces = append(b.Rules[0].Sets[0].Pieces, pt("spare piece"))[:3]
	b.Rules[0].Sets = append(b.Rules[0].Sets, set("spare set"))[:2]
	b.Rules = append(b.Rules, api.Rule{Name: "spare rule"})[:2]
	b.Watches = append(b.Watches, api.Watch{Name: "spare watch"})[:2]
	return b
}

// stretched tells b with what lies behind its lists' lengths.
func stretched(b api.Book) string {
	b.Tables, b.Rules, b.Watches = b.Tables[:3], b.Rules[:3], b.Watches[:3]
	s := fmt.Sprint(b, b.Tables[0].Keys[:3], b.Rules[0].Tests[:3], b.Rules[0].Sets[:3], b.Rules[0].Sets[0].Pieces[:4])
	return s
}

// R4, R7: what is handed in stays, its spare room, and what lies behind a list's
// length, too, which is not read.
func TestArgumentsStay(t *testing.T) {
	b, other := roomy(), full()
	before := stretched(b)
	want, _ := parse.Print(full())
	for range 3 {
		if s, e := parse.Print(b); s != want || e != api.OK {
			t.Errorf("%q, %d", s, e)
		}
		if !parse.Same(b, other) || !parse.Same(other, b) {
			t.Error("same")
		}
		b.Watches = b.Watches[:3]
		if s, e := parse.Print(b); s != "" || e != api.ErrRule || parse.Same(b, other) {
			t.Errorf("%q, %d", s, e)
		}
		b.Watches = b.Watches[:2]
	}
	if after := stretched(b); after != before {
		t.Error(after)
	}
}

// fill writes what is told of into all lists of b, their spare room, too.
func fill(b api.Book, told string) {
	fillAll := func(l []api.Param) {
		for i := range l[:cap(l)] {
			l[:cap(l)][i] = kv(told, told)
		}
	}
	for _, x := range b.Tables {
		fillAll(x.Keys)
	}
	for _, x := range b.Rules {
		for i := range x.Tests[:cap(x.Tests)] {
			x.Tests[:cap(x.Tests)][i] = ts(told, told)
		}
		for _, s := range x.Sets {
			for i := range s.Pieces[:cap(s.Pieces)] {
				s.Pieces[:cap(s.Pieces)][i] = pt(told)
			}
		}
		for i := range x.Sets[len(x.Sets):cap(x.Sets)] {
			x.Sets[:cap(x.Sets)][len(x.Sets)+i] = set(told)
		}
	}
	for i := range b.Watches[:cap(b.Watches)] {
		b.Watches[:cap(b.Watches)][i].Name = told
	}
	for i := range b.Tables[len(b.Tables):cap(b.Tables)] {
		b.Tables[:cap(b.Tables)][len(b.Tables)+i].Name = told
	}
	for i := range b.Rules[len(b.Rules):cap(b.Rules)] {
		b.Rules[:cap(b.Rules)][len(b.Rules)+i].Name = told
	}
}

// R4, R7: an answer is its own, its spare room, too, whoever asks, and whatever was
// asked ahead; no two lists of one share any.
func TestAnswersAreTheirOwn(t *testing.T) {
	s, _ := parse.Print(full())
	s += strings.ReplaceAll(s, "$g", "$h") + "rule q log { set a = $b; set c = $d; set e = $f; test $g like \"h\"; test $i like \"j\"; } table x { \"a\" = \"b\"; } table y { \"c\" = \"d\"; \"e\" = \"f\"; \"g\" = \"h\"; }"
	want, _, _ := plainParse(s)
	var kept [5]api.Book
	var all sync.WaitGroup
	for i := range kept {
		all.Go(func() {
			for range 50 {
				refuses(t, s+"\n}", strings.Count(s, "\n")+2)
				b, line, e := parse.Parse(s)
				if !plainSame(b, want) || line != 0 || e != api.OK {
					t.Errorf("%v, %d, %d", b, line, e)
				}
				kept[i] = b
			}
		})
	}
	all.Wait()
	for i, b := range kept[:4] {
		fill(b, strings.Repeat("y", i+1))
	}
	reads(t, s, want, 0, api.OK)
	if !plainSame(kept[4], want) {
		t.Error(kept[4])
	}
	apart(t, kept[4])
}

// apart holds the lists of b to sharing nothing: what is put behind one is to be seen
// in none.
func apart(t *testing.T, b api.Book) {
	t.Helper()
	before := fmt.Sprint(b)
	for _, x := range b.Tables {
		_ = append(x.Keys, kv("y", "y"))
	}
	for _, x := range b.Rules {
		_ = append(x.Tests, ts("y", "y"))
		for _, s := range x.Sets {
			_ = append(s.Pieces, pt("y"))
		}
		_ = append(x.Sets, set("y"))
	}
	_ = append(b.Tables, api.Table{Name: "y"})
	_ = append(b.Rules, api.Rule{Name: "y"})
	_ = append(b.Watches, api.Watch{Name: "y"})
	if after := fmt.Sprint(b); after != before {
		t.Errorf("%s, and not %s", after, before)
	}
	for i, x := range b.Tables {
		for k := range x.Keys {
			x.Keys[k] = kv(fmt.Sprint(i), fmt.Sprint(k))
		}
	}
	for i, x := range b.Tables {
		for k, p := range x.Keys {
			if p != kv(fmt.Sprint(i), fmt.Sprint(k)) {
				t.Error(b.Tables)
			}
		}
	}
}

// R6: numbers are written without a 0 ahead, and read so.
func TestNumbersAsText(t *testing.T) {
	for n := 1; n <= 999999; n = n*9/8 + 1 {
		w := api.Watch{Name: "w", Kind: 1, Count: n, Window: n * second, Raise: "a", Level: n}
		prints(t, watches(w))
		s, _ := parse.Print(watches(w))
		for _, word := range []string{"count ", "\"a\" "} {
			if !strings.Contains(s, fmt.Sprintf("%s%d ", word, n)) {
				t.Errorf("%q", s)
			}
			for _, wrong := range []string{"0", "00"} {
				refuses(t, strings.Replace(s, fmt.Sprintf("%s%d ", word, n), fmt.Sprintf("%s%s%d ", word, wrong, n), 1), map[string]int{"count ": 2, "\"a\" ": 4}[word])
			}
		}
	}
}
