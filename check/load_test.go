package check_test

import (
	"fmt"
	"strings"
	"testing"

	"gong/api"
	"gong/check"
	"gong/parse"
)

// loads holds Load of s to what is known, and to what parse and Check say of it.
func loads(t *testing.T, s string, want int, code api.Code) {
	t.Helper()
	read, at, e := parse.Parse(s)
	if e == api.OK {
		at, e = plainCheck(read)
	}
	if at != want || e != code {
		t.Errorf("%.300q: %d, %d by the chapter, and not %d, %d", s, at, e, want, code)
	}
	if e != api.OK {
		read = api.Book{}
	}
	b, line, c := check.Load(s)
	if !parse.Same(b, read) || line != at || c != e {
		t.Errorf("Load(%.300q) = %.300s, %d, %d, and not %.300s, %d, %d", s, fmt.Sprint(b), line, c, fmt.Sprint(read), at, e)
	}
}

const file = `# all there is
table sev { "a" = "5"; "b" = "0"; else "3"; }
rule down trap within 1.3.6.1 {
 test $source like "10.*"; test $bind#2 unlike "[!a-c]*";
 set node = $source; set class = "link"; set level = sev($bind.1.3); set text = "if " + $uptime; }
rule noise log { test $sd.a@1.b like ""; drop; }
rule rest log { set class = $app; set node = $host; set level = "4"; set key = sev($text); }
watch flap threshold { class "link"; count 5; window 60s; raise "flap" 4 "flapping"; }
watch p pair { other "up"; class "down"; window 1500ms; }
watch s suppress { class "*"; other "?"; window 1h; }
watch a absence { class "beat"; window 1d; raise "silent" 5 ""; }
`

// 16.2: a file that may be used, as parse reads it.
func TestLoad(t *testing.T) {
	for _, s := range []string{"", "# none", "\n", file, strings.ReplaceAll(file, "\n", "\r\n\n"), "table t { }", "watch w pair { class \"a\"; other \"a\"; window 1ns; }"} {
		loads(t, s, 0, api.OK)
	}
	b, line, e := check.Load("table t { \"a\" = \"b\"; }\nrule r trap is 1.3.6 { set node = t($source); set class = \"c\"; }\nwatch w pair { class \"d\"; other \"e\"; window 30s; }")
	want := api.Book{
		Tables:  []api.Table{{Name: "t", Line: 1, Keys: []api.Param{kv("a", "b")}}},
		Rules:   []api.Rule{{Name: "r", Line: 2, From: 1, Oid: "1.3.6", Sets: sets(set("node", pd("t", "source")), set("class", pt("c")))}},
		Watches: []api.Watch{{Name: "w", Line: 3, Kind: 1, Class: "d", Other: "e", Window: 30e9}},
	}
	if !parse.Same(b, want) || line != 0 || e != api.OK {
		t.Error(b, line, e)
	}
}

// 16.2: what lex, parse and Check refuse, each with its line; the first of them comes
// ahead of the others, wherever it stands.
func TestLoadRefuses(t *testing.T) {
	for _, k := range []struct {
		s    string
		line int
		e    api.Code
	}{
		{`watch w pair { class "down"; window 30s; }`, 1, api.ErrCheck},
		{"rule r\n <", 2, api.ErrWord}, {"rule r log { }\n}\n\n$", 4, api.ErrWord}, {"\n\"", 2, api.ErrWord},
		{"rule r log { }\n}", 2, api.ErrRule}, {"rule r log {\n drop;\n drop; }", 3, api.ErrRule}, {"what", 1, api.ErrRule}, {"watch w pair {\ncount 05; }", 2, api.ErrRule},
		{strings.Repeat(" ", 1<<16+1), 0, api.ErrLong}, {strings.Repeat("table t { }\n", 1025), 1025, api.ErrLong}, {"rule r log { }" + strings.Repeat("\n", 1<<16), 0, api.ErrLong},
		{"\n\nrule r log { }", 3, api.ErrCheck}, {"rule r trap { drop; } # a\nrule s trap { drop; }\nrule\nr log { drop; }", 3, api.ErrCheck}, {"rule r log {\nset node = \"a\";\n}", 1, api.ErrCheck},
		{"watch w pair { }\nrule r log { }\ntable t { \"a\" = \"\"; \"a\" = \"\"; }", 3, api.ErrCheck}, {"watch w pair { }\nrule r log { }\ntable t { }", 2, api.ErrCheck}, {"watch w pair { }\nrule r log { drop; }\ntable t { }", 1, api.ErrCheck},
		{"table t { }\nrule r trap {\nset node = t($host); set class = \"a\"; }", 2, api.ErrCheck}, {"rule r log {\nset node = t($host); set class = \"a\"; }", 1, api.ErrCheck}, {"rule r log {\nset node = t($host); set class = \"a\"; }\ntable t { }", 0, api.OK},
		{"rule r trap is 1 { drop; }", 1, api.ErrCheck}, {"rule r trap is 1.3a { drop; }", 1, api.ErrCheck}, {"rule r trap is 1.3 { drop; }", 0, api.OK},
		{"rule r log { test $trap like \"a\"; drop; }", 1, api.ErrCheck}, {"rule r log { test $text like \"[\"; drop; }", 1, api.ErrCheck}, {"rule r log { set node = $host; set class = $app; set level = \"4\" + \"2\"; }", 1, api.ErrCheck}, {"rule r log { set node = $host; set class = $app; set level = \"6\"; }", 1, api.ErrCheck}, {"rule r log { set node = $host; set class = $app; set age = \"1\"; }", 1, api.ErrCheck}, {"rule r log { set node = $host; set class = $app; set node = $host; }", 1, api.ErrCheck}, {"rule r log { set node = $host; set class = $app; drop; }", 1, api.ErrCheck},
		{"watch w threshold { class \"a\"; count 1; window 1s; raise \"b\" 1 \"\"; }", 1, api.ErrCheck}, {"watch w threshold { class \"a\"; count 1001; window 1s; raise \"b\" 1 \"\"; }", 1, api.ErrCheck}, {"watch w threshold { class \"a\"; count 1000; window 1s; raise \"b\" 1 \"\"; }", 0, api.OK}, {"watch w absence { class \"a\"; window 0s; raise \"b\" 1 \"\"; }", 1, api.ErrCheck}, {"watch w absence { class \"a\"; window 1668d; raise \"b\" 1 \"\"; }", 1, api.ErrCheck}, {"watch w absence { class \"a\"; window 1667d; raise \"b\" 1 \"\"; }", 0, api.OK}, {"watch w absence { class \"a\"; window 1s; raise \"b\" 6 \"\"; }", 1, api.ErrCheck}, {"watch w absence { class \"a\"; window 1s; raise \"\\xff\" 5 \"\"; }", 1, api.ErrCheck},
	} {
		loads(t, k.s, k.line, k.e)
	}
	for _, k := range []struct {
		one  string
		most int
	}{{"table t%d { }\n", 64}, {"rule r%d log { drop; }\n", 256}, {"watch w%d pair { class \"a\"; other \"b\"; window 1s; }\n", 64}} {
		s := ""
		for i := range k.most {
			s += fmt.Sprintf(k.one, i)
		}
		loads(t, s, 0, api.OK)
		loads(t, s+fmt.Sprintf(k.one, k.most-1), 0, api.ErrLong)
		loads(t, s+fmt.Sprintf(k.one, k.most)+"rule r log { }", 0, api.ErrLong)
	}
}

// 16.2: a file less any one of its lines, and with any one of them twice.
func TestLoadNearFiles(t *testing.T) {
	lines := strings.SplitAfter(file, "\n")
	for i := range lines {
		for _, s := range []string{strings.Join(lines[:i], "") + strings.Join(lines[i+1:], ""), strings.Join(lines[:i+1], "") + strings.Join(lines[i:], ""), strings.Join(lines[:i], ""), strings.Join(lines[i:], "")} {
			read, at, e := parse.Parse(s)
			if e == api.OK {
				at, e = plainCheck(read)
			}
			loads(t, s, at, e)
		}
	}
	for i := range len(file) + 1 {
		s := file[:i]
		read, at, e := parse.Parse(s)
		if e == api.OK {
			at, e = plainCheck(read)
		}
		loads(t, s, at, e)
	}
}

// finds holds Find to the chapter's words, and to what is known.
func finds(t *testing.T, b api.Book, table, key, want string, there bool) {
	t.Helper()
	if s, ok := check.Find(b, table, key); s != want || ok != there {
		t.Errorf("Find(%.300s, %.90q, %.90q) = %.90q, %t, and not %.90q, %t", fmt.Sprint(b.Tables), table, key, s, ok, want, there)
	}
	if s, ok := plainFind(b, table, key); s != want || ok != there {
		t.Errorf("%.90q, %.90q: %.90q, %t by the chapter", table, key, s, ok)
	}
}

// 16.2: what tables tell of keys that they have, and of others; of books that may not
// be used the first table, and the first key.
func TestFind(t *testing.T) {
	b := full()
	for _, k := range []struct {
		table, key, want string
		there            bool
	}{
		{"sev", "a", "5", true}, {"sev", "b", "0", true}, {"sev", "", "x", true}, {"sev", "c", "3", true}, {"sev", "A", "3", true}, {"sev", "a ", "3", true}, {"sev", "5", "3", true}, {"sev", "3", "3", true},
		{"names", "a", "", true}, {"names", "", "", true}, {"r", "a", "a", true}, {"r", "b", "", true}, {"r", "", "", true},
		{"", "a", "", false}, {"Sev", "a", "", false}, {"s", "a", "", false}, {"sev ", "a", "", false}, {"a", "a", "", false}, {"t", "", "", false},
	} {
		finds(t, b, k.table, k.key, k.want, k.there)
		finds(t, api.Book{Rules: b.Rules, Watches: b.Watches}, k.table, k.key, "", false)
	}
	twice := api.Book{Tables: []api.Table{{Name: "a", Keys: []api.Param{kv("k", "1"), kv("k", "2"), kv("", "3")}, Else: "4"}, {Name: "a", Keys: []api.Param{kv("k", "5"), kv("l", "6")}, Else: "7"}, {Keys: []api.Param{kv("k", "8")}, Else: "9"}}}
	finds(t, twice, "a", "k", "1", true)
	finds(t, twice, "a", "", "3", true)
	finds(t, twice, "a", "l", "4", true)
	finds(t, twice, "", "k", "8", true)
	finds(t, twice, "", "", "9", true)
	finds(t, api.Book{Tables: []api.Table{{Name: "a", Keys: []api.Param{kv("k", "")}, Else: "1"}}}, "a", "k", "", true)
	finds(t, api.Book{}, "", "", "", false)
	b = many(5000, 0, 0)
	for i := range b.Tables {
		b.Tables[i].Else = fmt.Sprint("else ", i)
		finds(t, b, fmt.Sprint(i), "", fmt.Sprint("else ", i), true)
	}
	b = api.Book{Tables: []api.Table{{Name: "\xff", Else: "\x00"}}}
	for i := range 5000 {
		b.Tables[0].Keys = append(b.Tables[0].Keys, kv(fmt.Sprint(i), fmt.Sprint(i*i)))
	}
	for i := range 5001 {
		want := fmt.Sprint(i * i)
		if i == 5000 {
			want = "\x00"
		}
		finds(t, b, "\xff", fmt.Sprint(i), want, true)
	}
}
