package parse_test

import (
	"maps"
	"regexp"
	"slices"
	"strconv"
	"strings"

	"gong/api"
	"gong/lex"
)

// grammar is the chapter's.
const grammar = `
file  = { table | rule | watch }
table = "table" WORD "{" { TEXT "=" TEXT ";" } [ "else" TEXT ";" ] "}"
rule  = "rule" WORD from "{" { test | set | drop } "}"
from  = "trap" [ ( "is" | "within" ) FIGURE ] | "log"
test  = "test" FIELD ( "like" | "unlike" ) TEXT ";"
set   = "set" WORD "=" piece { "+" piece } ";"
piece = TEXT | FIELD | WORD "(" FIELD ")"
drop  = "drop" ";"
watch = "watch" WORD kind "{" { class | other | count | window | raise } "}"
kind  = "pair" | "suppress" | "threshold" | "absence"
class = "class" TEXT ";"
other = "other" TEXT ";"
count = "count" FIGURE ";"
window = "window" FIGURE ";"
raise = "raise" TEXT FIGURE TEXT ";"
`

// form is a part of the grammar: a row of forms, a choice of them, one that may come
// often, one that may come once, or what has its text as name or as itself.
type form struct {
	is   string
	text string
	of   []form
}

var formWords = regexp.MustCompile(`"[^"]*"|[A-Za-z]+|[()\[\]{}|]`)

// formOf reads a choice of rows, up to what closes it.
func formOf(words *[]string) form {
	all := form{is: "choice", of: []form{{is: "row"}}}
	for len(*words) > 0 {
		x := (*words)[0]
		*words = (*words)[1:]
		row := &all.of[len(all.of)-1]
		switch x {
		case ")", "]", "}":
			return all
		case "|":
			all.of = append(all.of, form{is: "row"})
		case "(", "[", "{":
			row.of = append(row.of, form{is: x, of: []form{formOf(words)}})
		default:
			row.of = append(row.of, form{is: "name", text: x})
		}
	}
	return all
}

var forms = func() map[string]form {
	m := map[string]form{}
	for line := range strings.Lines(strings.TrimSpace(grammar)) {
		name, right, _ := strings.Cut(line, "=")
		words := formWords.FindAllString(right, -1)
		m[strings.TrimSpace(name)] = formOf(&words)
	}
	return m
}()

// seeker looks where forms may end among tokens; far is the farthest one that could
// not stand where it does.
type seeker struct {
	l   []lex.Token
	far int
}

// ends are the places where x may end that begins at one of these.
func (k *seeker) ends(x form, at []int) []int {
	found := map[int]bool{}
	switch x.is {
	case "row":
		for _, y := range x.of {
			at = k.ends(y, at)
		}
		return at
	case "choice", "(":
		for _, y := range x.of {
			for _, i := range k.ends(y, at) {
				found[i] = true
			}
		}
	case "[":
		return slices.Concat(at, k.ends(x.of[0], at))
	case "{":
		for len(at) > 0 {
			for _, i := range at {
				found[i] = true
			}
			at = k.ends(x.of[0], at)
		}
	case "name":
		if y, ok := forms[x.text]; ok {
			return k.ends(y, at)
		}
		for _, i := range at {
			if i < len(k.l) && stands(k.l[i], x.text) {
				found[i+1] = true
			} else {
				k.far = max(k.far, i)
			}
		}
	}
	return slices.Sorted(maps.Keys(found))
}

// stands tells whether t is what the grammar names so.
func stands(t lex.Token, name string) bool {
	switch name {
	case "WORD":
		return t.Kind == 1
	case "FIGURE":
		return t.Kind == 2
	case "FIELD":
		return t.Kind == 3
	case "TEXT":
		return t.Kind == 4
	}
	return (t.Kind == 1 || t.Kind == 5) && strconv.Quote(t.Text) == name
}

// firstOff is the place of the first token that the grammar has not there: that behind
// the last one, if the file ends too early; -1, if all is right.
func firstOff(l []lex.Token) int {
	k := seeker{l: l}
	ends := k.ends(forms["file"], []int{0})
	if slices.Contains(ends, len(l)) {
		return -1
	}
	return max(k.far, slices.Max(ends))
}

var numberForm = regexp.MustCompile(`\A(0|[1-9][0-9]{0,5})\z`)

var spanForm = regexp.MustCompile(`\A(0|[1-9][0-9]{0,8})(ns|us|ms|s|m|h|d)\z`)

// units are chapter 3's.
var units = map[string]int{"ns": 1, "us": 1e3, "ms": 1e6, "s": 1e9, "m": 60e9, "h": 3600e9, "d": 86400e9}

func plainNumber(s string) (int, bool) {
	n, _ := strconv.Atoi(s)
	return n, numberForm.MatchString(s)
}

func plainSpan(s string) (int, bool) {
	x := spanForm.FindStringSubmatch(s)
	if x == nil {
		return 0, false
	}
	n, _ := strconv.Atoi(x[1])
	return n * units[x[2]], n <= (1<<61)/units[x[2]]
}

// secondOff is the place of the first token, among those that the grammar has there,
// that comes a second time, or is a figure that is none of what is asked for; -1, if
// there is none.
func secondOff(l []lex.Token) int {
	part, first := "", -1
	var seen map[string]bool
	for i, t := range l {
		sign := t.Kind == 5
		switch {
		case part == "":
			part, first, seen = t.Text, -1, map[string]bool{}
		case sign && t.Text == "}":
			part = ""
		case sign && (t.Text == "{" || t.Text == ";"):
			first = i + 1
		case first == i && (part == "watch" || t.Kind == 1 && t.Text == "drop"):
			if seen[t.Text] {
				return i
			}
			seen[t.Text] = true
		case first >= 0 && part == "watch" && t.Kind == 2:
			_, ok := plainNumber(t.Text)
			if l[first].Text == "window" {
				_, ok = plainSpan(t.Text)
			}
			if !ok {
				return i
			}
		}
	}
	return -1
}

// plainParse is Parse by the chapter's words.
func plainParse(s string) (b api.Book, line int, e api.Code) {
	l, line, e := lex.Split(s)
	if e != api.OK {
		return b, line, e
	}
	off := firstOff(l)
	sound := len(l)
	if off >= 0 {
		sound = off
	}
	if i := secondOff(l[:sound]); i >= 0 {
		off = i
	}
	switch {
	case off < 0:
		return plainBook(l), 0, api.OK
	case off < len(l):
		return b, l[off].Line, api.ErrRule
	}
	return b, l[len(l)-1].Line, api.ErrRule
}

// plainBook is the book of tokens that the grammar has so.
func plainBook(l []lex.Token) (b api.Book) {
	for len(l) > 0 {
		long := slices.IndexFunc(l, func(t lex.Token) bool { return t.Kind == 5 && t.Text == "}" })
		open := slices.IndexFunc(l, func(t lex.Token) bool { return t.Kind == 5 && t.Text == "{" })
		head, rest := l[:open], l[open+1:long]
		var clauses [][]lex.Token
		for len(rest) > 0 {
			end := slices.IndexFunc(rest, func(t lex.Token) bool { return t.Kind == 5 && t.Text == ";" })
			clauses = append(clauses, rest[:end])
			rest = rest[end+1:]
		}
		switch name := head[1].Text; head[0].Text {
		case "table":
			b.Tables = append(b.Tables, plainTable(api.Table{Name: name, Line: head[0].Line}, clauses))
		case "rule":
			x := api.Rule{Name: name, Line: head[0].Line, From: map[string]int{"trap": 1, "log": 2}[head[2].Text]}
			if len(head) == 5 {
				x.Within, x.Oid = head[3].Text == "within", head[4].Text
			}
			b.Rules = append(b.Rules, plainRule(x, clauses))
		default:
			kind := map[string]int{"pair": 1, "suppress": 2, "threshold": 3, "absence": 4}[head[2].Text]
			b.Watches = append(b.Watches, plainWatch(api.Watch{Name: name, Line: head[0].Line, Kind: kind}, clauses))
		}
		l = l[long+1:]
	}
	return b
}

func plainTable(t api.Table, clauses [][]lex.Token) api.Table {
	for _, c := range clauses {
		if len(c) == 2 {
			t.Else = c[1].Text
		} else {
			t.Keys = append(t.Keys, api.Param{Name: c[0].Text, Value: c[2].Text})
		}
	}
	return t
}

func plainRule(x api.Rule, clauses [][]lex.Token) api.Rule {
	for _, c := range clauses {
		switch c[0].Text {
		case "drop":
			x.Drop = true
		case "test":
			x.Tests = append(x.Tests, api.Test{Field: c[1].Text, Glob: c[3].Text, Not: c[2].Text == "unlike"})
		default:
			s := api.Set{Name: c[1].Text}
			for i := 3; i < len(c); i += 2 {
				switch c[i].Kind {
				case 4:
					s.Pieces = append(s.Pieces, api.Piece{Kind: 1, Text: c[i].Text})
				case 3:
					s.Pieces = append(s.Pieces, api.Piece{Kind: 2, Text: c[i].Text})
				default:
					s.Pieces = append(s.Pieces, api.Piece{Kind: 3, Text: c[i+2].Text, Table: c[i].Text})
					i += 3
				}
			}
			x.Sets = append(x.Sets, s)
		}
	}
	return x
}

func plainWatch(w api.Watch, clauses [][]lex.Token) api.Watch {
	for _, c := range clauses {
		switch s := c[1].Text; c[0].Text {
		case "class":
			w.Class = s
		case "other":
			w.Other = s
		case "count":
			w.Count, _ = plainNumber(s)
		case "window":
			w.Window, _ = plainSpan(s)
		default:
			w.Raise, w.Text = s, c[3].Text
			w.Level, _ = plainNumber(c[2].Text)
		}
	}
	return w
}

// plainSame is Same by the chapter's words.
func plainSame(a, b api.Book) bool {
	if len(a.Tables) != len(b.Tables) || len(a.Rules) != len(b.Rules) || len(a.Watches) != len(b.Watches) {
		return false
	}
	for i, x := range a.Tables {
		y := b.Tables[i]
		if x.Name != y.Name || x.Line != y.Line || x.Else != y.Else || !slices.Equal(x.Keys, y.Keys) {
			return false
		}
	}
	for i, x := range a.Rules {
		y := b.Rules[i]
		if x.Name != y.Name || x.Line != y.Line || x.From != y.From || x.Oid != y.Oid || x.Within != y.Within || x.Drop != y.Drop || !slices.Equal(x.Tests, y.Tests) || len(x.Sets) != len(y.Sets) {
			return false
		}
		for k, s := range x.Sets {
			if s.Name != y.Sets[k].Name || !slices.Equal(s.Pieces, y.Sets[k].Pieces) {
				return false
			}
		}
	}
	for i, x := range a.Watches {
		if x != b.Watches[i] {
			return false
		}
	}
	return true
}
