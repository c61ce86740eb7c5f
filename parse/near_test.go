package parse_test

import (
	"fmt"
	"slices"
	"strconv"
	"strings"
	"testing"

	"gong/api"
	"gong/parse"
)

// symbols are tokens of each kind that the grammar parts.
var symbols = []string{"table", "else", "rule", "trap", "is", "within", "log", "test", "like", "unlike", "set", "drop", "watch", "pair", "threshold", "class", "other", "count", "window", "raise", "a", "1", "1s", "$b", `"c"`, `"drop"`, "{", "}", "(", ")", ";", "=", "+", ","}

// 15.1: each token of some files left out, turned to another, or with another ahead
// of it, each on a line of its own.
func TestNearFiles(t *testing.T) {
	for _, s := range []string{
		`table t { "a" = "b"; "c" = "d"; else "e"; } rule r log { }`,
		`rule r trap is 1.3 { test $a like "b"; set c = "d" + $e + f($g); drop; test $h unlike "i"; } table t { }`,
		`rule r trap within 1.3 { drop; set a = b($c); } rule q trap { } rule p log { }`,
		`watch w threshold { class "a"; other "b"; count 2; window 3s; raise "c" 4 "d"; } watch v absence { }`,
	} {
		l := wordsOf(t, s)
		for i := range len(l) + 1 {
			if i < len(l) {
				holds(t, lines(slices.Delete(slices.Clone(l), i, i+1)))
			}
			for _, x := range symbols {
				holds(t, lines(slices.Insert(slices.Clone(l), i, x)))
				if i < len(l) {
					holds(t, lines(slices.Concat(l[:i], []string{x}, l[i+1:])))
				}
			}
		}
	}
}

// walk goes through all rows of at most so many symbols.
func walk(most int, see func(l []string), symbols ...string) {
	var on func(l []string)
	on = func(l []string) {
		see(l)
		for _, x := range symbols {
			if len(l) < most {
				on(append(slices.Clone(l), x))
			}
		}
	}
	on(nil)
}

// 15.1: all short rows of tokens, within what is open, or not.
func TestShortFiles(t *testing.T) {
	walk(3, func(l []string) { holds(t, lines(l)) }, symbols...)
	for _, k := range []struct {
		ahead, behind string
		symbols       []string
	}{
		{"table\nt\n{\n", "\n}", []string{"else", "a", `"b"`, "=", ";", "}", "1"}},
		{"table\nt\n{\n\"a\"\n=\n", ";\n}", []string{"else", `"b"`, "=", ";", "}", "$c"}},
		{"rule\nr\n", "\n}", []string{"trap", "log", "is", "within", "1", "{", "drop"}},
		{"rule\nr\nlog\n{\n", "\n}", []string{"drop", ";", "test", "$a", "like", `"b"`, "}"}},
		{"rule\nr\nlog\n{\nset\na\n", ";\n}", []string{"=", "+", `"b"`, "$c", "d", "(", ")", ";"}},
		{"rule\nr\nlog\n{\ntest\n", ";\n}", []string{"$a", "like", "unlike", `"b"`, "c", ";"}},
		{"watch\nw\n", "\n}", []string{"pair", "suppress", "threshold", "absence", "{", "}", "count", "1", ";"}},
		{"watch\nw\npair\n{\n", "\n}", []string{"class", "other", "count", "1", `"a"`, ";", "}"}},
		{"watch\nw\npair\n{\nraise\n", ";\n}", []string{`"a"`, "1", "01", "b", ";", "raise"}},
	} {
		walk(5, func(l []string) {
			holds(t, k.ahead+lines(l))
			holds(t, k.ahead+lines(l)+"\n"+k.behind)
		}, k.symbols...)
	}
}

// clauses are those of a watch, each on two lines, and twice, as it may stand there.
var clauses = [][2]string{
	{"class\n\"a\";", "class\n\"\";"}, {"other\n\"b\";", "other\n\"\";"}, {"count\n5;", "count\n0;"}, {"window\n6s;", "window\n0s;"}, {"raise\n\"c\" 7 \"d\";", "raise\n\"\" 0 \"\";"},
}

// 15.1: a clause of a watch may come once, in whatever order they stand; the line of
// its first word is told where it comes again, ahead of whatever is wrong behind it.
func TestClausesComeOnce(t *testing.T) {
	order := []int{0, 1, 2, 3, 4}
	var turn func(k int)
	turn = func(k int) {
		if k == len(order) {
			holdsClauses(t, order)
		}
		for i := k; i < len(order); i++ {
			order[k], order[i] = order[i], order[k]
			turn(k + 1)
			order[k], order[i] = order[i], order[k]
		}
	}
	turn(0)
	for i, x := range clauses {
		for _, first := range x {
			word, _, _ := strings.Cut(first, "\n")
			for _, again := range []string{x[0], x[1], word + "\n", word + "\n1x;", word + "\n}", word + "\n$a;"} {
				refuses(t, "watch w pair {"+first+"\n"+again+"}", 3)
				refuses(t, "watch w pair {"+first+clauses[(i+1)%5][0]+clauses[(i+2)%5][1]+"\n"+again+"}", 5)
			}
		}
	}
}

// holdsClauses holds a watch whose clauses stand in that order to what it is to be.
func holdsClauses(t *testing.T, order []int) {
	t.Helper()
	for some := range 1 << len(order) {
		var s strings.Builder
		want := api.Watch{Name: "w", Line: 1, Kind: api.WSuppress}
		for _, i := range order {
			s.WriteString(clauses[i][some>>i&1])
			if some>>i&1 == 1 {
				continue
			}
			switch i {
			case 0:
				want.Class = "a"
			case 1:
				want.Other = "b"
			case 2:
				want.Count = 5
			case 3:
				want.Window = 6 * second
			default:
				want.Raise, want.Level, want.Text = "c", 7, "d"
			}
		}
		reads(t, "watch w suppress {"+s.String()+"}", watches(want), 0, api.OK)
		again := slices.Index(order, order[some%len(order)])
		refuses(t, "watch w suppress {"+s.String()+"\n"+clauses[order[again]][0]+"}", 7)
	}
}

// 15.1: what came once in one rule, table or watch may come in the next one.
func TestOnceInEach(t *testing.T) {
	w := "{class \"a\";other \"b\";count 1;window 1s;raise \"c\" 1 \"d\";}\n"
	reads(t, "watch w pair"+w+"watch v pair"+w, watches(
		api.Watch{Name: "w", Line: 1, Kind: 1, Class: "a", Other: "b", Count: 1, Window: second, Raise: "c", Level: 1, Text: "d"},
		api.Watch{Name: "v", Line: 2, Kind: 1, Class: "a", Other: "b", Count: 1, Window: second, Raise: "c", Level: 1, Text: "d"}), 0, api.OK)
	reads(t, "rule r log{drop;}rule q log{drop;}", rules(api.Rule{Name: "r", Line: 1, From: 2, Drop: true}, api.Rule{Name: "q", Line: 1, From: 2, Drop: true}), 0, api.OK)
	reads(t, "table t{else \"a\";}table s{else \"b\";}", tables(api.Table{Name: "t", Line: 1, Else: "a"}, api.Table{Name: "s", Line: 1, Else: "b"}), 0, api.OK)
}

// 15.1: figures that are numbers, or spans, and those that are none, whose line is
// told: not that of what they stand behind.
func TestFigures(t *testing.T) {
	figures := []string{"0", "00", "000000", "01", "007", "0000001", "9", "10", "99999", "100000", "999999", "1000000", "1234567", "0999999", "9999999999999999999", "18446744073709551617", "1a", "0x1", "0b1", "1e3", "1.0", "1.", "0.", "1.3.6", "0x", "1s1", "9z", "26687d", "26688d", "26689d", "640511h", "640512h", "640513h", "999999999s", "1000000000s", "999999999ms", "0999s", "1S", "1sec", "1min", "1w", "1.5s", "1nss", "1mm"}
	for _, u := range []string{"ns", "us", "ms", "s", "m", "h", "d", "x", "ks"} {
		for _, n := range []string{"0", "00", "1", "01", "60", "86400", "999999999", "1000000000"} {
			figures = append(figures, n+u)
		}
	}
	for n := range 1200 {
		figures = append(figures, strconv.Itoa(n*833), "0"+strconv.Itoa(n))
	}
	for _, s := range figures {
		for _, x := range []string{"count\n\n%s\n\n;", "window\n\n%s\n\n;", "raise\n\"a\"\n%s\n\"b\";"} {
			holds(t, fmt.Sprintf("watch w pair { "+x+" }", s))
		}
		reads(t, "rule r trap is "+s+" { }", rules(api.Rule{Name: "r", Line: 1, From: 1, Oid: s}), 0, api.OK)
	}
	for _, s := range []string{"00", "01", "1000000", "1a", "1.", "0x1", "1s"} {
		refuses(t, "watch w pair {\ncount\n"+s+"\n;\ncount 1; }", 3)
		refuses(t, "watch w pair {\nraise \"a\"\n"+s+"\n\"b\"; }", 3)
	}
	for _, s := range []string{"0", "1", "01s", "1x", "1000000000s", "26689d", "1.5s", "1S"} {
		refuses(t, "watch w pair {\nwindow\n"+s+"\n;\nwindow 1s; }", 3)
	}
	for s, n := range map[string]int{"0": 0, "1": 1, "7": 7, "10": 10, "999999": 999999} {
		reads(t, "watch w pair {\ncount "+s+"; raise \"a\" "+s+" \"\";}", watches(api.Watch{Name: "w", Line: 1, Kind: 1, Count: n, Raise: "a", Level: n}), 0, api.OK)
	}
	for s, n := range map[string]int{"0ns": 0, "1ns": 1, "2us": 2000, "3ms": 3000000, "30s": 30 * second, "5m": 300 * second, "6h": 6 * 3600 * second, "1d": 86400 * second} {
		reads(t, "watch w pair {\nwindow "+s+";}", watches(api.Watch{Name: "w", Line: 1, Kind: 1, Window: n}), 0, api.OK)
	}
}

// oddBytes are so many bytes that no chance makes, but look so.
func oddBytes(long, from int) string {
	room := make([]byte, long)
	for i := range room {
		x := uint64(from+i+1) * 0x9E3779B97F4A7C15
		x = (x ^ x>>30) * 0xBF58476D1CE4E5B9
		x = (x ^ x>>27) * 0x94D049BB133111EB
		room[i] = byte(x ^ x>>31)
	}
	return string(room)
}

// 15.1, 15.3: files of clauses that no chance puts together, but look so, right ones
// and wrong ones.
func TestOddFiles(t *testing.T) {
	heads := []string{"table t\n{", "rule r log {", "rule r trap {", "rule\nr trap is 1.3 {", "rule r trap within 1\n{", "watch w pair {", "watch w absence {", "watch w\nthreshold {"}
	inside := [][]string{
		{"\"a\" = \"b\";", "\"c\"\n= \"\";", "\"\" = \"\\n\";\n", "else \"d\";"},
		{"test $a like \"b\";", "test $c\nunlike \"\";", "set e = \"f\" + $g;", "set h\n= i($j) + \"\"\n;", "drop;"},
		{"class \"a\";", "other\n\"b\";", "count 3;\n", "window 4ms;", "raise \"c\" 5 \"\";", "count 0;", "window 1h;", "raise \"\" 0 \"\";"},
	}
	good := 0
	for i := range 6000 {
		var b strings.Builder
		odd := []byte(oddBytes(40, 50*i))
		for len(odd) > 8 {
			h := int(odd[0]) % len(heads)
			b.WriteString(heads[h])
			of := inside[min(h, 5)/5+min(h, 1)]
			for _, c := range odd[1 : 2+odd[1]%5] {
				if c%97 == 96 {
					of = inside[c%3]
				}
				b.WriteString(of[int(c)%len(of)])
			}
			b.WriteString("}\n")
			odd = odd[min(len(odd), 8+int(odd[1])%24):]
		}
		holds(t, b.String())
		if _, _, e := parse.Parse(b.String()); e == api.OK {
			good++
		}
	}
	if good < 1500 || good > 4500 {
		t.Errorf("%d are files of books", good)
	}
}
