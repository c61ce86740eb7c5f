package parse_test

import (
	"regexp"
	"slices"
	"strconv"
	"strings"

	"gong/api"
	"gong/lex"
)

// Chapter 14's words for what tokens' texts are.
var (
	wordForm   = regexp.MustCompile(`\A[A-Za-z][A-Za-z0-9_\-]*\z`)
	figureForm = regexp.MustCompile(`\A[0-9][0-9A-Za-z.]*\z`)
	fieldForm  = regexp.MustCompile(`\A[A-Za-z0-9._\-#@]+\z`)
)

// plainSpelled is chapter 3's: the greatest unit that divides n, and at most nine
// digits.
func plainSpelled(n int) (string, bool) {
	if n == 0 {
		return "0s", true
	}
	for _, u := range []string{"d", "h", "m", "s", "ms", "us", "ns"} {
		if n%units[u] == 0 {
			return strconv.Itoa(n/units[u]) + u, n >= 0 && n <= 1<<61 && n/units[u] < 1e9
		}
	}
	return "", false
}

// mayRule tells whether x may be printed.
func mayRule(x api.Rule) bool {
	if !wordForm.MatchString(x.Name) || x.From != 1 && x.From != 2 {
		return false
	}
	if x.From == 2 && x.Oid != "" || x.Within && x.Oid == "" || x.Oid != "" && !figureForm.MatchString(x.Oid) {
		return false
	}
	for _, t := range x.Tests {
		if !fieldForm.MatchString(t.Field) {
			return false
		}
	}
	for _, s := range x.Sets {
		if !wordForm.MatchString(s.Name) || len(s.Pieces) == 0 || slices.ContainsFunc(s.Pieces, isNoPiece) {
			return false
		}
	}
	return true
}

func isNoPiece(p api.Piece) bool {
	switch p.Kind {
	case 1:
		return p.Table != ""
	case 2:
		return p.Table != "" || !fieldForm.MatchString(p.Text)
	case 3:
		return !wordForm.MatchString(p.Table) || !fieldForm.MatchString(p.Text)
	}
	return true
}

func mayWatch(w api.Watch) bool {
	_, spelled := plainSpelled(w.Window)
	return wordForm.MatchString(w.Name) && w.Kind >= 1 && w.Kind <= 4 && spelled &&
		w.Count >= 0 && w.Count <= 999999 && w.Level >= 0 && w.Level <= 999999 &&
		(w.Raise != "" || w.Level == 0 && w.Text == "")
}

// plainTokens are the tokens of b, as they are to stand behind one another, in a file
// without what is free.
func plainTokens(b api.Book) (l []string) {
	for _, t := range b.Tables {
		l = append(l, "table", t.Name, "{")
		for _, k := range t.Keys {
			l = append(l, lex.Quote(k.Name), "=", lex.Quote(k.Value), ";")
		}
		if t.Else != "" {
			l = append(l, "else", lex.Quote(t.Else), ";")
		}
		l = append(l, "}")
	}
	for _, x := range b.Rules {
		l = append(l, plainRuleTokens(x)...)
	}
	for _, w := range b.Watches {
		l = append(l, "watch", w.Name, []string{"pair", "suppress", "threshold", "absence"}[w.Kind-1], "{")
		if w.Class != "" {
			l = append(l, "class", lex.Quote(w.Class), ";")
		}
		if w.Other != "" {
			l = append(l, "other", lex.Quote(w.Other), ";")
		}
		if w.Count != 0 {
			l = append(l, "count", strconv.Itoa(w.Count), ";")
		}
		if w.Window != 0 {
			s, _ := plainSpelled(w.Window)
			l = append(l, "window", s, ";")
		}
		if w.Raise != "" {
			l = append(l, "raise", lex.Quote(w.Raise), strconv.Itoa(w.Level), lex.Quote(w.Text), ";")
		}
		l = append(l, "}")
	}
	return l
}

func plainRuleTokens(x api.Rule) []string {
	l := []string{"rule", x.Name, []string{"trap", "log"}[x.From-1]}
	switch {
	case x.Within:
		l = append(l, "within", x.Oid)
	case x.Oid != "":
		l = append(l, "is", x.Oid)
	}
	l = append(l, "{")
	for _, t := range x.Tests {
		like := "like"
		if t.Not {
			like = "unlike"
		}
		l = append(l, "test", "$"+t.Field, like, lex.Quote(t.Glob), ";")
	}
	for _, s := range x.Sets {
		l = append(l, "set", s.Name)
		for i, p := range s.Pieces {
			l = append(l, []string{"=", "+"}[min(i, 1)])
			switch p.Kind {
			case 1:
				l = append(l, lex.Quote(p.Text))
			case 2:
				l = append(l, "$"+p.Text)
			default:
				l = append(l, p.Table, "(", "$"+p.Text, ")")
			}
		}
		l = append(l, ";")
	}
	if x.Drop {
		l = append(l, "drop", ";")
	}
	return append(l, "}")
}

// plainPrint is what Print answers, but for the order of clauses.
func plainPrint(b api.Book) (string, api.Code) {
	for _, t := range b.Tables {
		if !wordForm.MatchString(t.Name) {
			return "", api.ErrRule
		}
	}
	for _, x := range b.Rules {
		if !mayRule(x) {
			return "", api.ErrRule
		}
	}
	for _, w := range b.Watches {
		if !mayWatch(w) {
			return "", api.ErrRule
		}
	}
	var file strings.Builder
	l := plainTokens(b)
	for _, s := range l {
		file.WriteString(s)
		if s == ";" || s == "{" || s == "}" {
			file.WriteString("\n")
		} else {
			file.WriteString(" ")
		}
	}
	if file.Len() > 65536 || len(l) > 4096 {
		return "", api.ErrLong
	}
	return file.String(), api.OK
}
