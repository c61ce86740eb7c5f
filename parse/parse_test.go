package parse_test

import (
	"fmt"
	"strings"
	"testing"

	"gong/api"
	"gong/lex"
	"gong/parse"
)

// reads holds Parse of s to what it is to answer.
func reads(t *testing.T, s string, want api.Book, at int, code api.Code) {
	t.Helper()
	if b, line, e := parse.Parse(s); !plainSame(b, want) || line != at || e != code {
		t.Errorf("Parse(%.400q) = %.600s, %d, %d, and not %.600s, %d, %d", s, fmt.Sprint(b), line, e, fmt.Sprint(want), at, code)
	}
}

// refuses holds Parse of s to a refusal of that line.
func refuses(t *testing.T, s string, line int) {
	t.Helper()
	reads(t, s, api.Book{}, line, api.ErrRule)
}

// holds holds Parse of s, and what follows of its book, to the chapter's words.
func holds(t *testing.T, s string) {
	t.Helper()
	b, line, e := plainParse(s)
	reads(t, s, b, line, e)
	if e == api.OK {
		prints(t, b)
	}
}

// lines is each of these tokens on a line of its own.
func lines(l []string) string {
	return strings.Join(l, "\n")
}

// wordsOf are the tokens of s, each as it stands in a file.
func wordsOf(t *testing.T, s string) []string {
	t.Helper()
	l, _, e := lex.Split(s)
	if e != api.OK {
		t.Fatal(s)
	}
	var all []string
	for _, k := range l {
		x, _ := lex.Print([]lex.Token{k})
		all = append(all, x[:len(x)-1])
	}
	return all
}

// pt, pf and pd are a text, a field, and what a table tells of a field.
func pt(s string) api.Piece          { return api.Piece{Kind: api.PText, Text: s} }
func pf(s string) api.Piece          { return api.Piece{Kind: api.PField, Text: s} }
func pd(at, s string) api.Piece      { return api.Piece{Kind: api.PTable, Text: s, Table: at} }
func kv(k, v string) api.Param       { return api.Param{Name: k, Value: v} }
func ts(f, g string) api.Test        { return api.Test{Field: f, Glob: g} }
func not(f, g string) api.Test       { return api.Test{Field: f, Glob: g, Not: true} }
func tables(l ...api.Table) api.Book { return api.Book{Tables: l} }
func rules(l ...api.Rule) api.Book   { return api.Book{Rules: l} }
func watches(l ...api.Watch) api.Book {
	return api.Book{Watches: l}
}
func set(name string, l ...api.Piece) api.Set { return api.Set{Name: name, Pieces: l} }
func sets(l ...api.Set) []api.Set             { return l }

const second = 1000000000

// whole is a file that has all there is, and wholeBook its book.
const whole = `# what is known of ports
table ports {
	"1" = "uplink"; "2" = "";
	"" = "none"; # of no port
	else "a \"port\"\n";
}
table none { }
rule down trap is 1.3.6.1.6.3.1.1.5.3 {
	test $bind.1.3.6.1.2.1.2.2.1.7 unlike "2";
	set node = $source;
	set class = "down"
		+ "-" + ports ( $bind#1 ) + $community;
	test $community like "pub*";
	set level="4";
}
watch w pair { class "down"; other "up"; window 30s; }
rule any trap { drop; }
rule
	tree trap within 1.3 { } # the end
`

// 15.1: a file with all there is; and where one of its tokens is turned.
func TestWholeFile(t *testing.T) {
	reads(t, whole, wholeBook(), 0, api.OK)
	holds(t, whole)
	for _, k := range []struct {
		from, to string
		line     int
	}{{"tree", "tree within", 19}, {"pub*\";", "pub*\"", 14}, {"drop;", "drop; drop;", 17}, {"30s", "30", 16}, {"uplink\"; ", "uplink\" ", 3}, {"none {", "none { ;", 7}} {
		refuses(t, strings.Replace(whole, k.from, k.to, 1), k.line)
	}
}

func wholeBook() api.Book {
	return api.Book{
		Tables: []api.Table{
			{Name: "ports", Line: 2, Keys: []api.Param{kv("1", "uplink"), kv("2", ""), kv("", "none")}, Else: "a \"port\"\n"},
			{Name: "none", Line: 7},
		},
		Rules: []api.Rule{
			{Name: "down", Line: 8, From: api.FTrap, Oid: "1.3.6.1.6.3.1.1.5.3",
				Tests: []api.Test{not("bind.1.3.6.1.2.1.2.2.1.7", "2"), ts("community", "pub*")},
				Sets:  sets(set("node", pf("source")), set("class", pt("down"), pt("-"), pd("ports", "bind#1"), pf("community")), set("level", pt("4")))},
			{Name: "any", Line: 17, From: api.FTrap, Drop: true},
			{Name: "tree", Line: 18, From: api.FTrap, Oid: "1.3", Within: true},
		},
		Watches: []api.Watch{{Name: "w", Line: 16, Kind: api.WPair, Class: "down", Other: "up", Window: 30 * second}},
	}
}

// known are files, and their books.
var known = []struct {
	s string
	b api.Book
}{
	{"", api.Book{}}, {" \n\t# table\n", api.Book{}},
	{"rule r trap is 1.3.6 { set node = $source; }", rules(api.Rule{Name: "r", Line: 1, From: 1, Oid: "1.3.6", Sets: sets(set("node", pf("source")))})},
	{"table t{}", tables(api.Table{Name: "t", Line: 1})},
	{"table t{else\"\";}", tables(api.Table{Name: "t", Line: 1})},
	{"table t{else\"a\";}", tables(api.Table{Name: "t", Line: 1, Else: "a"})},
	{"table t{\"a\"=\"b\";}", tables(api.Table{Name: "t", Line: 1, Keys: []api.Param{kv("a", "b")}})},
	{"table t{\"a\"=\"b\";\"a\"=\"c\";\"\"=\"\";}", tables(api.Table{Name: "t", Line: 1, Keys: []api.Param{kv("a", "b"), kv("a", "c"), kv("", "")}})},
	{"table\n\nt{\"\\x00\\xff\\n\"=\"\\\"\";else \";\";}\n\ntable t {}", tables(api.Table{Name: "t", Line: 1, Keys: []api.Param{kv("\x00\xff\n", "\"")}, Else: ";"}, api.Table{Name: "t", Line: 5})},
	{"rule r log{}", rules(api.Rule{Name: "r", Line: 1, From: 2})},
	{"rule r trap{}", rules(api.Rule{Name: "r", Line: 1, From: 1})},
	{"rule r trap within 1{}", rules(api.Rule{Name: "r", Line: 1, From: 1, Oid: "1", Within: true})},
	{"rule r trap is 0x..z{}", rules(api.Rule{Name: "r", Line: 1, From: 1, Oid: "0x..z"})},
	{"rule r log{drop;}", rules(api.Rule{Name: "r", Line: 1, From: 2, Drop: true})},
	{"rule r log{test $a like \"\"; drop; test $a unlike \"[\"; set a=\"\"; test $- like \"\";}", rules(api.Rule{Name: "r", Line: 1, From: 2, Drop: true, Tests: []api.Test{ts("a", ""), not("a", "["), ts("-", "")}, Sets: sets(set("a", pt("")))})},
	{"rule r log{set a=\"x\"; set a=$x+$x; set b=t($x)+u($#)+\"\";}", rules(api.Rule{Name: "r", Line: 1, From: 2, Sets: sets(set("a", pt("x")), set("a", pf("x"), pf("x")), set("b", pd("t", "x"), pd("u", "#"), pt("")))})},
	{"rule r log{}rule r log{}\nrule r trap{drop;}", rules(api.Rule{Name: "r", Line: 1, From: 2}, api.Rule{Name: "r", Line: 1, From: 2}, api.Rule{Name: "r", Line: 2, From: 1, Drop: true})},
	{"watch w pair{}", watches(api.Watch{Name: "w", Line: 1, Kind: 1})},
	{"watch w suppress{}", watches(api.Watch{Name: "w", Line: 1, Kind: 2})},
	{"watch w threshold{}", watches(api.Watch{Name: "w", Line: 1, Kind: 3})},
	{"watch w absence{}", watches(api.Watch{Name: "w", Line: 1, Kind: 4})},
	{"watch w threshold{class \"a\";other \"b\";count 5;window 2m;raise \"c\" 3 \"d\";}", watches(api.Watch{Name: "w", Line: 1, Kind: 3, Class: "a", Other: "b", Count: 5, Window: 120 * second, Raise: "c", Level: 3, Text: "d"})},
	{"watch w pair{raise \"c\" 0 \"\";window 999999999ns;count 999999;other \"\\n\";class \"*\";}", watches(api.Watch{Name: "w", Line: 1, Kind: 1, Class: "*", Other: "\n", Count: 999999, Window: 999999999, Raise: "c"})},
	{"watch w pair{raise \"\" 0 \"\";window 0d;count 0;other \"\";class \"\";}", watches(api.Watch{Name: "w", Line: 1, Kind: 1})},
	{"watch w pair{raise \"c\" 999999 \"d\";window 26687d;}", watches(api.Watch{Name: "w", Line: 1, Kind: 1, Window: 26687 * 86400 * second, Raise: "c", Level: 999999, Text: "d"})},
	{"# a\n\nwatch # b\nw\npair\n{\n}\n\nwatch v absence{}", watches(api.Watch{Name: "w", Line: 3, Kind: 1}, api.Watch{Name: "v", Line: 9, Kind: 4})},
	{"table table{}rule rule log{set set=table($rule)+else($test);}watch watch pair{}", api.Book{Tables: []api.Table{{Name: "table", Line: 1}}, Rules: []api.Rule{{Name: "rule", Line: 1, From: 2, Sets: sets(set("set", pd("table", "rule"), pd("else", "test")))}}, Watches: []api.Watch{{Name: "watch", Line: 1, Kind: 1}}}},
	{"rule trap trap{}rule log log{}rule is trap is 1{}watch pair suppress{}", api.Book{Rules: []api.Rule{{Name: "trap", Line: 1, From: 1}, {Name: "log", Line: 1, From: 2}, {Name: "is", Line: 1, From: 1, Oid: "1"}}, Watches: []api.Watch{{Name: "pair", Line: 1, Kind: 2}}}},
	{"watch b pair{}\ntable b{}\nrule b log{}\nwatch a pair{}\nrule a log{}\ntable a{}", api.Book{Tables: []api.Table{{Name: "b", Line: 2}, {Name: "a", Line: 6}}, Rules: []api.Rule{{Name: "b", Line: 3, From: 2}, {Name: "a", Line: 5, From: 2}}, Watches: []api.Watch{{Name: "b", Line: 1, Kind: 1}, {Name: "a", Line: 4, Kind: 1}}}},
}

// 15.1: files of all kinds, read as books.
func TestParse(t *testing.T) {
	for _, k := range known {
		reads(t, k.s, k.b, 0, api.OK)
		holds(t, k.s)
		holds(t, "\n"+k.s+"\n"+k.s)
	}
}

// 15.1: what chapter 14 refuses, with its line, be the tokens ahead of it right or not.
func TestWordsAreRefused(t *testing.T) {
	for _, k := range []struct {
		s    string
		line int
		e    api.Code
	}{
		{"-", 1, api.ErrWord}, {"table t {\n}\n\n\"", 3 + 1, api.ErrWord}, {"} }\n.", 2, api.ErrWord}, {"watch\n\"a\nb\"", 2, api.ErrWord}, {"rule r log {\n set a = $; }", 2, api.ErrWord},
		{strings.Repeat(" ", 1<<16+1), 0, api.ErrLong}, {"}" + strings.Repeat("\n", 1<<16), 0, api.ErrLong}, {strings.Repeat("table t{}\n", 1025), 1025, api.ErrLong}, {strings.Repeat("}\n", 4097), 4097, api.ErrLong}, {strings.Repeat("}\n", 4097) + "-", 4098, api.ErrWord},
	} {
		reads(t, k.s, api.Book{}, k.line, k.e)
		holds(t, k.s)
	}
	reads(t, strings.Repeat("}\n", 4096), api.Book{}, 1, api.ErrRule)
	b, line, e := parse.Parse(strings.Repeat("table t{}\n", 1024))
	if len(b.Tables) != 1024 || b.Tables[1023].Line != 1024 || line != 0 || e != api.OK {
		t.Error(len(b.Tables), line, e)
	}
}

// 15.1: the first token that can't stand where it does, and its line.
func TestParseRefuses(t *testing.T) {
	for _, k := range []struct {
		s    string
		line int
	}{
		{"a", 1}, {"\n1", 2}, {"\n\n$a", 3}, {"\"table\"", 1}, {"$table t { }", 1}, {"{", 1}, {"}", 1}, {";", 1}, {"Table t{}", 1}, {"tables t{}", 1}, {"else", 1}, {"test", 1}, {"pair", 1}, {"table t {}\n;", 2}, {"table t {}\n}", 2}, {"table t {} rule\nr log {}\ntab t{}", 3},
		{"table\n1\n{}", 2}, {"table\n\"t\"\n{}", 2}, {"table\n$t\n{}", 2}, {"table\n{\n}", 2}, {"table t\n}", 2}, {"table t\nt\n{}", 2}, {"table t\n\"{\"", 2}, {"table t {\n\"a\"\n\"b\";}", 3}, {"table t {\n\"a\"=\nb;}", 3}, {"table t {\"a\"=\"b\"\n}", 2}, {"table t {\"a\"=\"b\"\n,\n\"c\"=\"d\";}", 2}, {"table t {\na=\"b\";}", 2}, {"table t {\n1=\"b\";}", 2}, {"table t {\"a\"=\n$b;}", 2}, {"table t {\"a\"=\n1;}", 2}, {"table t {\"a\"=\"b\"\n+\"c\";}", 2},
		{"table t {else\n;}", 2}, {"table t {else\na;}", 2}, {"table t {else\n=\n\"a\";}", 2}, {"table t {else \"a\"\n}", 2}, {"table t {else \"a\";\n\"b\"=\"c\";}", 2}, {"table t {else \"a\";\n\n\nelse\n\"a\";}", 4}, {"table t {\n\"else\"\n\"a\";}", 3}, {"table t {;\n}", 1}, {"table t {\n\n{}}", 3}, {"table t {\nset a=\"b\";}", 2}, {"table t {\ndrop;}", 2},
		{"rule\n1 log{}", 2}, {"rule\n{}", 2}, {"rule r\n{}", 2}, {"rule r\n1{}", 2}, {"rule r\nlogs{}", 2}, {"rule r\n\"log\"{}", 2}, {"rule r\n$log{}", 2}, {"rule r log\ntrap{}", 2}, {"rule r log\nis 1{}", 2}, {"rule r log\nwithin 1{}", 2}, {"rule r log\n1{}", 2}, {"rule r trap\n1{}", 2}, {"rule r trap is\n{}", 2}, {"rule r trap is\nwithin 1{}", 2}, {"rule r trap within\nis 1{}", 2}, {"rule r trap is\n\"1\"{}", 2}, {"rule r trap is\na{}", 2}, {"rule r trap is\n$1{}", 2}, {"rule r trap is 1\n2{}", 2}, {"rule r trap is 1\nwithin 2{}", 2}, {"rule r trap within 1\nis 2{}", 2}, {"rule r trap like\n1{}", 1}, {"rule r trap is 1\n}", 2}, {"rule r trap is 1\n;", 2},
		{"rule r log{\n;}", 2}, {"rule r log{\n{}}", 2}, {"rule r log{\n\"a\"=\"b\";}", 2}, {"rule r log{\nelse \"a\";}", 2}, {"rule r log{\nclass \"a\";}", 2}, {"rule r log{\n\"test\" $a like \"b\";}", 2}, {"rule r log{\n$drop;}", 2}, {"rule r log{\nrule\n}", 2},
		{"rule r log{test\na like \"b\";}", 2}, {"rule r log{test\n\"a\" like \"b\";}", 2}, {"rule r log{test\nlike \"b\";}", 2}, {"rule r log{test $a\n\"b\";}", 2}, {"rule r log{test $a\n=\n\"b\";}", 2}, {"rule r log{test $a\nis \"b\";}", 2}, {"rule r log{test $a\n\"like\" \"b\";}", 2}, {"rule r log{test $a like\nunlike \"b\";}", 2}, {"rule r log{test $a unlike\nlike \"b\";}", 2}, {"rule r log{test $a like\nb;}", 2}, {"rule r log{test $a like\n$b;}", 2}, {"rule r log{test $a like\n1;}", 2}, {"rule r log{test $a like\n;}", 2}, {"rule r log{test $a like \"b\"\n}", 2}, {"rule r log{test $a like \"b\"\n\"c\";}", 2}, {"rule r log{test $a like \"b\"\n+ \"c\";}", 2},
		{"rule r log{set\n$a=\"b\";}", 2}, {"rule r log{set\n\"a\"=\"b\";}", 2}, {"rule r log{set\n1=\"b\";}", 2}, {"rule r log{set\n=\"b\";}", 2}, {"rule r log{set a\n\"b\";}", 2}, {"rule r log{set a\n+\"b\";}", 2}, {"rule r log{set a\n;}", 2}, {"rule r log{set a =\n;}", 2}, {"rule r log{set a =\n=\"b\";}", 2}, {"rule r log{set a =\n1;}", 2}, {"rule r log{set a =\n+\"b\";}", 2}, {"rule r log{set a = \"b\"\n}", 2}, {"rule r log{set a = \"b\"\n\"c\";}", 2}, {"rule r log{set a = \"b\"\n=\"c\";}", 2}, {"rule r log{set a = \"b\"\n,\"c\";}", 2}, {"rule r log{set a = \"b\"+\n;}", 2}, {"rule r log{set a = \"b\"+\n+\"c\";}", 2}, {"rule r log{set a = \"b\"+\n1;}", 2},
		{"rule r log{set a = b\n;}", 2}, {"rule r log{set a = b\n+$c;}", 2}, {"rule r log{set a = b\n$c;}", 2}, {"rule r log{set a = b(\n);}", 2}, {"rule r log{set a = b(\n\"c\");}", 2}, {"rule r log{set a = b(\nc);}", 2}, {"rule r log{set a = b(\nc($d));}", 2}, {"rule r log{set a = b($c\n;}", 2}, {"rule r log{set a = b($c\n,$d);}", 2}, {"rule r log{set a = b($c\n+$d);}", 2}, {"rule r log{set a = b($c)\n);}", 2}, {"rule r log{set a = \n($c);}", 2}, {"rule r log{set a = \"b\"\n($c);}", 2}, {"rule r log{set a = $b\n($c);}", 2},
		{"rule r log{drop\n}", 2}, {"rule r log{drop\ndrop;}", 2}, {"rule r log{drop\n\"a\";}", 2}, {"rule r log{drop;\n\ndrop\n;}", 3}, {"rule r log{drop;test $a like \"\";\ndrop\n}", 2}, {"rule r log{drop;\ndrop", 2},
		{"watch\n1 pair{}", 2}, {"watch\n{}", 2}, {"watch w\n{}", 2}, {"watch w\npairs{}", 2}, {"watch w\n\"pair\"{}", 2}, {"watch w\n$pair{}", 2}, {"watch w\nPair{}", 2}, {"watch w\nlog{}", 2}, {"watch w pair\npair{}", 2}, {"watch w pair\n1{}", 2}, {"watch w pair\n}", 2}, {"watch w pair{\n;}", 2}, {"watch w pair{\n{}}", 2}, {"watch w pair{\ndrop;}", 2}, {"watch w pair{\n\"class\" \"a\";}", 2}, {"watch w pair{\n$class \"a\";}", 2}, {"watch w pair{\nelse \"a\";}", 2}, {"watch w pair{\nset a=\"b\";}", 2},
		{"watch w pair{class\n;}", 2}, {"watch w pair{class\na;}", 2}, {"watch w pair{class\n=\"a\";}", 2}, {"watch w pair{class \"a\"\n}", 2}, {"watch w pair{class \"a\"\n\"b\";}", 2}, {"watch w pair{other\n1;}", 2}, {"watch w pair{other\n$a;}", 2}, {"watch w pair{other \"a\"\nclass \"b\";}", 2},
		{"watch w pair{count\n\"1\";}", 2}, {"watch w pair{count\na;}", 2}, {"watch w pair{count\n;}", 2}, {"watch w pair{count 1\n2;}", 2}, {"watch w pair{count 1\n}", 2}, {"watch w pair{window\n\"1s\";}", 2}, {"watch w pair{window\ns;}", 2}, {"watch w pair{window 1s\n2s;}", 2}, {"watch w pair{window 1s\n}", 2},
		{"watch w pair{raise\n1 \"a\";}", 2}, {"watch w pair{raise\na;}", 2}, {"watch w pair{raise \"a\"\n\"b\";}", 2}, {"watch w pair{raise \"a\"\n;}", 2}, {"watch w pair{raise \"a\" 1\n;}", 2}, {"watch w pair{raise \"a\" 1\n2;}", 2}, {"watch w pair{raise \"a\" 1\nb;}", 2}, {"watch w pair{raise \"a\" 1 \"b\"\n\"c\";}", 2}, {"watch w pair{raise \"a\" 1 \"b\"\n}", 2}, {"watch w pair{raise \"a\" 1\n$b;}", 2},
	} {
		refuses(t, k.s, k.line)
		refuses(t, "watch v pair { }\n"+k.s+"\n}\n{", k.line+1)
		holds(t, k.s)
	}
}

// 15.1: a file that ends too early, behind each of its tokens: the line is that of the
// last one, whatever stands behind it.
func TestEndsTooEarly(t *testing.T) {
	files := []string{whole}
	for _, k := range known {
		files = append(files, k.s)
	}
	for _, file := range files {
		l := wordsOf(t, file)
		for i := range len(l) + 1 {
			s := lines(l[:i])
			holds(t, s)
			holds(t, s+"\n\n# the end\n")
			if _, line, e := parse.Parse(s + "\n\n# the end\n"); e != api.OK && (e != api.ErrRule || line != i) {
				t.Errorf("%q: %d, %d", s, line, e)
			}
		}
	}
}
