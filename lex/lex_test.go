package lex_test

import (
	"fmt"
	"regexp"
	"slices"
	"strconv"
	"strings"
	"testing"

	"gong/api"
	"gong/lex"
)

// wide is s with a character for each byte, so that a regexp's classes are of bytes.
func wide(s string) string {
	room := make([]rune, len(s))
	for i := range room {
		room[i] = rune(s[i])
	}
	return string(room)
}

// narrow is what wide made it of.
func narrow(s string) string {
	var room []byte
	for _, c := range s {
		room = append(room, byte(c))
	}
	return string(room)
}

// The chapter's words, over wide texts: what may stand in a file, the kinds' tokens in
// their order; and what is told by a \ in a text.
var (
	thingForm  = regexp.MustCompile(`\A(?:[\x09\x0a\x0d\x20]|#[^\x0a]*|([A-Za-z][A-Za-z0-9_\-]*)|([0-9][0-9A-Za-z.]*)|\$([A-Za-z0-9._\-#@]+)|"((?:[^\x00-\x1f"\\]|\\["\\nt]|\\x[0-9a-fA-F][0-9a-fA-F])*)"|([{}();=+,]))`)
	escapeForm = regexp.MustCompile(`\\(?:["\\nt]|x..)`)
)

// plainRead is what stands between a text's quotes, by the chapter's words.
func plainRead(s string) string {
	return narrow(escapeForm.ReplaceAllStringFunc(s, func(x string) string {
		switch x[1] {
		case 'n':
			return "\x0a"
		case 't':
			return "\x09"
		case 'x':
			n, _ := strconv.ParseInt(x[2:], 16, 64)
			return wide(of(int(n)))
		}
		return x[1:]
	}))
}

// plainSplit is Split by the chapter's words.
func plainSplit(s string) (l []lex.Token, line int, e api.Code) {
	if len(s) > 65536 {
		return nil, 0, api.ErrLong
	}
	line = 1
	for rest := wide(s); rest != ""; {
		x := thingForm.FindStringSubmatch(rest)
		if x == nil {
			return nil, line, api.ErrWord
		}
		rest = rest[len(x[0]):]
		for i, text := range x[1:] {
			switch {
			case i == 3 && x[0][0] == '"':
				l = append(l, lex.Token{Kind: 4, Text: plainRead(text), Line: line})
			case text != "":
				l = append(l, lex.Token{Kind: i + 1, Text: narrow(text), Line: line})
			}
		}
		line += strings.Count(x[0], "\n")
	}
	if len(l) > 4096 {
		return nil, l[4096].Line, api.ErrLong
	}
	return l, 0, api.OK
}

// plainQuote is Quote by the chapter's words.
func plainQuote(s string) string {
	var b strings.Builder
	for i := range len(s) {
		switch c := s[i]; {
		case c == '"':
			b.WriteString(`\"`)
		case c == '\\':
			b.WriteString(`\\`)
		case c == 10:
			b.WriteString(`\n`)
		case c == 9:
			b.WriteString(`\t`)
		case c < 32 || c >= 127:
			fmt.Fprintf(&b, `\x%02x`, c)
		default:
			b.WriteByte(c)
		}
	}
	return `"` + b.String() + `"`
}

// The chapter's words for what each kind's Text is; of a text's it may be anything.
var textForms = map[int]*regexp.Regexp{
	1: regexp.MustCompile(`\A[A-Za-z][A-Za-z0-9_\-]*\z`),
	2: regexp.MustCompile(`\A[0-9][0-9A-Za-z.]*\z`),
	3: regexp.MustCompile(`\A[A-Za-z0-9._\-#@]+\z`),
	4: regexp.MustCompile(`(?s)\A.*\z`),
	5: regexp.MustCompile(`\A[{}();=+,]\z`),
}

// plainPrint is Print by the chapter's words.
func plainPrint(l []lex.Token) (string, api.Code) {
	s := ""
	for _, t := range l {
		form := textForms[t.Kind]
		if form == nil || !form.MatchString(wide(t.Text)) {
			return "", api.ErrWord
		}
		switch {
		case t.Kind == 3:
			s += "$" + t.Text + " "
		case t.Kind == 4:
			s += plainQuote(t.Text) + " "
		case t.Kind == 5 && (t.Text == ";" || t.Text == "{" || t.Text == "}"):
			s += t.Text + "\n"
		default:
			s += t.Text + " "
		}
	}
	return s, api.OK
}

// tell is the beginning of tokens, to be shown.
func tell(l []lex.Token) string {
	var b strings.Builder
	for _, k := range l[:min(len(l), 20)] {
		fmt.Fprintf(&b, "{%d %.90q %d}", k.Kind, k.Text, k.Line)
	}
	return b.String()
}

// of is a text of one byte.
func of(c int) string {
	return string([]byte{byte(c)})
}

// splits holds Split of s to what it is to answer.
func splits(t *testing.T, s string, want []lex.Token, at int, code api.Code) {
	t.Helper()
	if l, line, e := lex.Split(s); !slices.Equal(l, want) || line != at || e != code {
		t.Errorf("Split(%.300q) = %s, %d, %d, and not %s, %d, %d", s, tell(l), line, e, tell(want), at, code)
	}
}

// holds holds Split of s, and Print of what it is cut into, to the chapter's words.
func holds(t *testing.T, s string) {
	t.Helper()
	l, line, e := plainSplit(s)
	splits(t, s, l, line, e)
	if e == api.OK {
		prints(t, l)
	}
}

// prints holds Print of l, and what it reads like, to the chapter's words.
func prints(t *testing.T, l []lex.Token) {
	t.Helper()
	want, code := plainPrint(l)
	s, e := lex.Print(l)
	if s != want || e != code {
		t.Errorf("Print(%s) = %.300q, %d, and not %.300q, %d", tell(l), s, e, want, code)
	}
	if e == api.OK && len(s) <= 1<<16 && len(l) <= 1<<12 {
		again(t, l, s)
	}
}

// again holds Split of s to the tokens of l, but for their lines.
func again(t *testing.T, l []lex.Token, s string) {
	t.Helper()
	back, line, e := lex.Split(s)
	same := slices.EqualFunc(l, back, func(x, y lex.Token) bool { return x.Kind == y.Kind && x.Text == y.Text })
	if !same || line != 0 || e != api.OK {
		t.Errorf("Split(%.300q) = %s, %d, %d, and not %s", s, tell(back), line, e, tell(l))
	}
}

// w, f, d, x and g are a word, a figure, a field, a text and a sign.
func w(s string, line int) lex.Token { return lex.Token{Kind: lex.TWord, Text: s, Line: line} }
func f(s string, line int) lex.Token { return lex.Token{Kind: lex.TFigure, Text: s, Line: line} }
func d(s string, line int) lex.Token { return lex.Token{Kind: lex.TField, Text: s, Line: line} }
func x(s string, line int) lex.Token { return lex.Token{Kind: lex.TText, Text: s, Line: line} }
func g(s string, line int) lex.Token { return lex.Token{Kind: lex.TSign, Text: s, Line: line} }

// known are files, and their tokens.
var known = []struct {
	s string
	l []lex.Token
}{
	{"", nil}, {" \t\r\n", nil}, {"#", nil}, {"# all of this", nil}, {"#\n#\n\n #", nil}, {"# \"\x00\\ $", nil},
	{"set node = $host; # a remark", []lex.Token{w("set", 1), w("node", 1), g("=", 1), d("host", 1), g(";", 1)}},
	{"rule r trap is 1.3.6 { set node = $source; }", []lex.Token{w("rule", 1), w("r", 1), w("trap", 1), w("is", 1), f("1.3.6", 1), g("{", 1), w("set", 1), w("node", 1), g("=", 1), d("source", 1), g(";", 1), g("}", 1)}},
	{"watch w pair { class \"down\"; window 30s; }", []lex.Token{w("watch", 1), w("w", 1), w("pair", 1), g("{", 1), w("class", 1), x("down", 1), g(";", 1), w("window", 1), f("30s", 1), g(";", 1), g("}", 1)}},
	{"table t {\n\t\"a\" = \"1\"; # one\r\n\t\"b\"=\"2\";\n\n} # end", []lex.Token{w("table", 1), w("t", 1), g("{", 1), x("a", 2), g("=", 2), x("1", 2), g(";", 2), x("b", 3), g("=", 3), x("2", 3), g(";", 3), g("}", 5)}},
	{"{}();=+,", []lex.Token{g("{", 1), g("}", 1), g("(", 1), g(")", 1), g(";", 1), g("=", 1), g("+", 1), g(",", 1)}},
	{"a", []lex.Token{w("a", 1)}}, {"Z", []lex.Token{w("Z", 1)}}, {"a-b_C9-_", []lex.Token{w("a-b_C9-_", 1)}}, {"a--", []lex.Token{w("a--", 1)}}, {"z_", []lex.Token{w("z_", 1)}},
	{"0", []lex.Token{f("0", 1)}}, {"9a.Z..", []lex.Token{f("9a.Z..", 1)}}, {"007", []lex.Token{f("007", 1)}}, {"1.3.6.1.", []lex.Token{f("1.3.6.1.", 1)}}, {"0x1F", []lex.Token{f("0x1F", 1)}},
	{"$a", []lex.Token{d("a", 1)}}, {"$-", []lex.Token{d("-", 1)}}, {"$#", []lex.Token{d("#", 1)}}, {"$.", []lex.Token{d(".", 1)}}, {"$@_9", []lex.Token{d("@_9", 1)}}, {"$bind#12", []lex.Token{d("bind#12", 1)}}, {"$sd.a@1.b-c # $d", []lex.Token{d("sd.a@1.b-c", 1)}}, {"$a#b\nc", []lex.Token{d("a#b", 1), w("c", 2)}}, {"$bind.1.3.6", []lex.Token{d("bind.1.3.6", 1)}},
	{`""`, []lex.Token{x("", 1)}}, {`"a b"`, []lex.Token{x("a b", 1)}}, {`"# no remark; {$a}"`, []lex.Token{x("# no remark; {$a}", 1)}}, {`"\"\\\n\t\x00\xfF\xAa"`, []lex.Token{x("\"\\\n\t\x00\xff\xaa", 1)}}, {`"\\n"`, []lex.Token{x(`\n`, 1)}}, {`"\\\\"`, []lex.Token{x(`\\`, 1)}}, {`"\x410"`, []lex.Token{x("A0", 1)}}, {`"\x5cn"`, []lex.Token{x(`\n`, 1)}}, {`"\x22"`, []lex.Token{x(`"`, 1)}}, {"\" !~\x7f\x80\xff\xc3\xa4\"", []lex.Token{x(" !~\x7f\x80\xff\xc3\xa4", 1)}}, {`"a""b"`, []lex.Token{x("a", 1), x("b", 1)}}, {`"\n"a`, []lex.Token{x("\n", 1), w("a", 1)}},
	{"a1", []lex.Token{w("a1", 1)}}, {"1a", []lex.Token{f("1a", 1)}}, {"a$b", []lex.Token{w("a", 1), d("b", 1)}}, {"a#b", []lex.Token{w("a", 1)}}, {"1#b", []lex.Token{f("1", 1)}}, {"1$b$c", []lex.Token{f("1", 1), d("b", 1), d("c", 1)}}, {`a"b"1"c"$d`, []lex.Token{w("a", 1), x("b", 1), f("1", 1), x("c", 1), d("d", 1)}}, {"a;b=1+c(2),", []lex.Token{w("a", 1), g(";", 1), w("b", 1), g("=", 1), f("1", 1), g("+", 1), w("c", 1), g("(", 1), f("2", 1), g(")", 1), g(",", 1)}},
	{"\n\na\n\r\rb\r\n\"c\\n\"d # \n\n#\n e", []lex.Token{w("a", 3), w("b", 4), x("c\n", 5), w("d", 5), w("e", 8)}}, {"a\rb\tc d", []lex.Token{w("a", 1), w("b", 1), w("c", 1), w("d", 1)}}, {"#a\n1", []lex.Token{f("1", 2)}}, {"#\ra\n1", []lex.Token{f("1", 2)}}, {"#\"\nb\"\"", []lex.Token{w("b", 2), x("", 2)}},
}

// 14.1: files of all kinds of tokens, each as long as may be, on their lines.
func TestSplit(t *testing.T) {
	for _, k := range known {
		splits(t, k.s, k.l, 0, api.OK)
		holds(t, k.s)
	}
}

// 14.1: what is no token is refused, with its line.
func TestSplitRefuses(t *testing.T) {
	for _, k := range []struct {
		s    string
		line int
	}{
		{"-", 1}, {"_", 1}, {".", 1}, {"@", 1}, {"!", 1}, {"'", 1}, {"*", 1}, {":", 1}, {"[", 1}, {"/", 1}, {"`", 1}, {"\\", 1}, {"\x00", 1}, {"\x0b", 1}, {"\x0c", 1}, {"\x1f", 1}, {"\x7f", 1}, {"\x80", 1}, {"\x85", 1}, {"\xa0", 1}, {"\xff", 1}, {"\xc3\xa4", 1}, {"\xef\xbb\xbfa", 1},
		{"a.b", 1}, {"a@", 1}, {"-a", 1}, {"_a", 1}, {"1-", 1}, {"1_2", 1}, {"1@", 1}, {"a\xc3\xa4", 1}, {"1\x00", 1}, {";.", 1}, {".1", 1},
		{"$", 1}, {"$ a", 1}, {"$$a", 1}, {"$\"a\"", 1}, {"$;", 1}, {"$\n", 1}, {"$a$", 1}, {"$a!", 1}, {"$\xc3\xa4", 1}, {"$a\xff", 1}, {"a $", 1},
		{`"`, 1}, {`"a`, 1}, {`"\"`, 1}, {`"\`, 1}, {`"a\\\"`, 1}, {`"""`, 1}, {`"a" "`, 1}, {"\"a\nb\"", 1}, {"\"a\n\n\"", 1}, {"\"a\tb\"", 1}, {"\"\r\"", 1}, {"\"\x00\"", 1}, {"\"\x1f\"", 1}, {`"\a"`, 1}, {`"\r"`, 1}, {`"\N"`, 1}, {`"\T"`, 1}, {`"\X41"`, 1}, {`"\0"`, 1}, {`"\ "`, 1}, {`"\'"`, 1}, {"\"\\\n\"", 1}, {"\"\\\xff\"", 1}, {`"\u0041"`, 1},
		{`"\x"`, 1}, {`"\x4"`, 1}, {`"\xg0"`, 1}, {`"\x0g"`, 1}, {`"\x 1"`, 1}, {`"\x+1"`, 1}, {`"\x-1"`, 1}, {`"\x0x"`, 1}, {`"\x_1"`, 1}, {`"\x1_"`, 1}, {`"\x0`, 1}, {`"\x`, 1}, {`"\x4\"`, 1}, {`"\x\41"`, 1},
		{"\n-", 2}, {"a\n\nb .", 3}, {"a\r\r.", 1}, {"# .\n# .\n.", 3}, {"\"\\n\\n\".", 1}, {"\n\n\"a", 3}, {"\n\"a\n\n\nb\"", 2}, {"\n\"a\\\n\"", 2}, {"\n\"\nb\".", 2}, {"a\n\"b\"\n\"c\n.", 3}, {"a\n.\n\"", 2}, {"a\n\"\n.", 2}, {"a # \"\n$ # \n$", 2}, {"#\n\r\n\t$\n", 3}, {"a\n\n\n\xff\n\n", 4},
	} {
		splits(t, k.s, nil, k.line, api.ErrWord)
		splits(t, "a = 1; "+k.s+" \" .\n$", nil, k.line, api.ErrWord)
		splits(t, "# a\n \n b"+" "+k.s, nil, k.line+2, api.ErrWord)
		holds(t, k.s)
	}
}

// 14.2: texts, quoted.
func TestQuote(t *testing.T) {
	for _, k := range [][2]string{
		{"", `""`}, {"a b", `"a b"`}, {`"`, `"\""`}, {`\`, `"\\"`}, {"\n", `"\n"`}, {"\t", `"\t"`}, {"\r", `"\x0d"`}, {"\x00", `"\x00"`}, {"\x1f", `"\x1f"`}, {" ", `" "`}, {"~", `"~"`}, {"\x7f", `"\x7f"`}, {"\x80", `"\x80"`}, {"\xff", `"\xff"`}, {"\xab\xcd\xef", `"\xab\xcd\xef"`}, {"\xc3\xa4", `"\xc3\xa4"`}, {"'#$;{}", `"'#$;{}"`}, {`\n`, `"\\n"`}, {`\\"`, `"\\\\\""`}, {"a\"b\\c\nd\te\x01f", `"a\"b\\c\nd\te\x01f"`}, {`\x41`, `"\\x41"`},
	} {
		if s := lex.Quote(k[0]); s != k[1] || s != plainQuote(k[0]) {
			t.Errorf("Quote(%q) = %q", k[0], s)
		}
		splits(t, k[1], []lex.Token{x(k[0], 1)}, 0, api.OK)
	}
}

// 14.2: tokens as they stand in a file, whatever their lines.
func TestPrint(t *testing.T) {
	for _, k := range []struct {
		l []lex.Token
		s string
	}{
		{nil, ""}, {[]lex.Token{w("a", 1)}, "a "}, {[]lex.Token{f("1.3", 0)}, "1.3 "}, {[]lex.Token{d("bind#1", -1)}, "$bind#1 "}, {[]lex.Token{x("", 1<<62)}, `"" `}, {[]lex.Token{x("a\n\xff", 7)}, `"a\n\xff" `},
		{[]lex.Token{g("{", 1), g("}", 1), g(";", 1), g("(", 1), g(")", 1), g("=", 1), g("+", 1), g(",", 1)}, "{\n}\n;\n( ) = + , "},
		{[]lex.Token{x("{", 1), x("}", 1), x(";", 1), w("a", 1)}, `"{" "}" ";" a `},
		{[]lex.Token{w("set", 3), w("node", 2), g("=", 1), d("host", 9), g("+", 1), x("b", 1), g(";", 0), g("}", 0)}, "set node = $host + \"b\" ;\n}\n"},
		{[]lex.Token{w("a", 1), w("b", 1), f("1", 1), f("2", 1), d("c", 1), d("d", 1), x("e", 1), x("f", 1)}, `a b 1 2 $c $d "e" "f" `},
	} {
		if s, e := lex.Print(k.l); s != k.s || e != api.OK {
			t.Errorf("Print(%s) = %q, %d", tell(k.l), s, e)
		}
		prints(t, k.l)
	}
}

// 14.2: what is no token is not printed, wherever it stands.
func TestPrintRefuses(t *testing.T) {
	var wrong []lex.Token
	for _, kind := range []int{0, -1, 6, 64, 1 << 40, -1 << 63, 1<<63 - 1} {
		for _, s := range []string{"", "a", "1", ";", `"a"`, "$a"} {
			wrong = append(wrong, lex.Token{Kind: kind, Text: s, Line: 1})
		}
	}
	for _, s := range []string{"", "1", "1a", "-", "_a", "-a", "$a", ";", `""`, `"a"`, "a ", " a", "a b", "a.b", "a;", "a#", "#", "a\n", "a\xff", "\xc3\xa4", "a\x00", "a\"\"", "a$b", "a1.2"} {
		wrong = append(wrong, w(s, 1))
	}
	for _, s := range []string{"", "a", "a1", "-1", ".1", ".", "1 ", " 1", "1 2", "1-2", "1_", "+1", "1;", "1#", "#", "1\n", "1\xff", "1\x00", "$1", `"1"`, "1@", "1\"\""} {
		wrong = append(wrong, f(s, 1))
	}
	for _, s := range []string{"", "$", "$a", " a", "a ", "a b", "a$b", "a;", "a\"\"", "\"a\"", "a\n", "\xff", "a\xc3\xa4", "a\x00", "a!", "a/b", "a+", "\\"} {
		wrong = append(wrong, d(s, 1))
	}
	for _, s := range []string{"", "a", "1", ";;", "{}", "; ", " ;", ";\n", ";#", "#", "$", "\"", "-", ".", "_", "@", ":", "[", "]", "<", ">", "*", "/", "!", "\x00", "\xff", "\n", " ", "()", "=="} {
		wrong = append(wrong, g(s, 1))
	}
	ok := []lex.Token{w("a", 1), f("1", 1), d("b", 1), x("c", 1), g(";", 1)}
	for _, k := range wrong {
		for i := range len(ok) + 1 {
			l := slices.Insert(slices.Clone(ok), i, k)
			if s, e := lex.Print(l); s != "" || e != api.ErrWord {
				t.Errorf("Print(%s) = %q, %d", tell(l), s, e)
			}
		}
		prints(t, []lex.Token{k})
	}
}
