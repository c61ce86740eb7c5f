package parse

import (
	"strconv"

	"gong/api"
	"gong/lex"
	"gong/stamp"
)

// What may come but once in a rule, or in a watch: a bit for each.
const (
	onceDrop = 1 << iota
	onceClass
	onceOther
	onceCount
	onceWindow
	onceRaise
)

// reader takes the parts of a book from its tokens, one behind the other. Once a token
// can't stand where it does, nothing is left to read: who reads looks but once, at the
// end, where line tells that token's. Until then it is that of the last one that was
// taken.
type reader struct {
	rest  []lex.Token
	line  int
	wrong bool
}

func (r *reader) book() api.Book {
	var b api.Book
	for len(r.rest) > 0 {
		switch {
		case r.took(tableWord):
			b.Tables = append(b.Tables, r.table())
		case r.took(ruleWord):
			b.Rules = append(b.Rules, r.rule())
		case r.took(watchWord):
			b.Watches = append(b.Watches, r.watch())
		default:
			r.refuse()
		}
	}
	return b
}

// table reads what stands behind the word table; so do rule and watch behind theirs.
func (r *reader) table() api.Table {
	t := api.Table{Line: r.line}
	t.Name = r.text(lex.TWord)
	r.must(opens)
	t.Keys = list(r.keyComes, r.key)
	if r.took(elseWord) {
		t.Else = r.text(lex.TText)
		r.must(ends)
	}
	r.must(closes)
	return t
}

func (r *reader) keyComes() bool {
	return r.comes(lex.TText)
}

func (r *reader) key() api.Param {
	p := api.Param{Name: r.text(lex.TText)}
	r.must(equals)
	p.Value = r.text(lex.TText)
	r.must(ends)
	return p
}

func (r *reader) rule() api.Rule {
	x := api.Rule{Line: r.line}
	x.Name = r.text(lex.TWord)
	r.from(&x)
	r.must(opens)
	seen := 0
	for r.inside() {
		switch {
		case r.took(testWord):
			x.Tests = append(x.Tests, r.test())
		case r.took(setWord):
			x.Sets = append(x.Sets, r.set())
		case r.tookOnce(dropWord, onceDrop, &seen):
			x.Drop = true
		default:
			r.refuse()
		}
		r.must(ends)
	}
	return x
}

// from reads which messages x is for.
func (r *reader) from(x *api.Rule) {
	switch {
	case r.took(logWord):
		x.From = api.FLog
	case r.took(trapWord):
		x.From = api.FTrap
		x.Within = r.took(withinWord)
		if x.Within || r.took(isWord) {
			x.Oid = r.text(lex.TFigure)
		}
	default:
		r.refuse()
	}
}

// test reads what stands behind the word test, but for the end; so do set and raise
// behind theirs.
func (r *reader) test() api.Test {
	t := api.Test{Field: r.text(lex.TField)}
	t.Not = r.took(unlikeWord)
	if !t.Not {
		r.must(likeWord)
	}
	t.Glob = r.text(lex.TText)
	return t
}

func (r *reader) set() api.Set {
	s := api.Set{Name: r.text(lex.TWord)}
	r.must(equals)
	first := r.piece()
	s.Pieces = append([]api.Piece{first}, list(r.tookPlus, r.piece)...)
	return s
}

func (r *reader) tookPlus() bool {
	return r.took(plus)
}

func (r *reader) piece() api.Piece {
	switch {
	case r.comes(lex.TText):
		return api.Piece{Kind: api.PText, Text: r.text(lex.TText)}
	case r.comes(lex.TField):
		return api.Piece{Kind: api.PField, Text: r.text(lex.TField)}
	}
	p := api.Piece{Kind: api.PTable, Table: r.text(lex.TWord)}
	r.must(left)
	p.Text = r.text(lex.TField)
	r.must(right)
	return p
}

func (r *reader) watch() api.Watch {
	w := api.Watch{Line: r.line}
	w.Name = r.text(lex.TWord)
	w.Kind = r.watchKind()
	r.must(opens)
	seen := 0
	for r.inside() {
		switch {
		case r.tookOnce(classWord, onceClass, &seen):
			w.Class = r.text(lex.TText)
		case r.tookOnce(otherWord, onceOther, &seen):
			w.Other = r.text(lex.TText)
		case r.tookOnce(countWord, onceCount, &seen):
			w.Count = r.figure(number)
		case r.tookOnce(windowWord, onceWindow, &seen):
			w.Window = r.figure(stamp.Span)
		case r.tookOnce(raiseWord, onceRaise, &seen):
			r.raise(&w)
		default:
			r.refuse()
		}
		r.must(ends)
	}
	return w
}

func (r *reader) watchKind() int {
	for _, k := range watchKinds {
		if r.took(k.word) {
			return k.kind
		}
	}
	r.refuse()
	return 0
}

func (r *reader) raise(w *api.Watch) {
	w.Raise = r.text(lex.TText)
	w.Level = r.figure(number)
	w.Text = r.text(lex.TText)
}

// list reads ones of anything, as long as more tells that one comes.
func list[T any](more func() bool, one func() T) []T {
	var l []T
	for more() {
		l = append(l, one())
	}
	return l
}

// inside tells whether there is more ahead of the sign that closes, which it takes.
func (r *reader) inside() bool {
	return !r.took(closes) && !r.wrong
}

// tookOnce takes that word, if it comes and was not seen yet.
func (r *reader) tookOnce(word string, bit int, seen *int) bool {
	if *seen&bit != 0 || !r.took(word) {
		return false
	}
	*seen |= bit
	return true
}

// figure takes a figure, which must come, as what told makes of it.
func (r *reader) figure(told func(s string) (int, api.Code)) int {
	if !r.comes(lex.TFigure) {
		r.refuse()
		return 0
	}
	n, e := told(r.rest[0].Text)
	if e != api.OK {
		r.refuse()
		return 0
	}
	r.take()
	return n
}

// number is the number whose digits s has, without a 0 ahead.
func number(s string) (int, api.Code) {
	n, err := strconv.Atoi(s)
	if err != nil || len(s) > mostDigits || strconv.Itoa(n) != s {
		return 0, api.ErrRule
	}
	return n, api.OK
}

// text takes a token of that kind, which must come, and tells what it has.
func (r *reader) text(kind int) string {
	if !r.comes(kind) {
		r.refuse()
		return ""
	}
	return r.take()
}

// must takes that word or sign, which must come.
func (r *reader) must(s string) {
	if !r.took(s) {
		r.refuse()
	}
}

// took takes that word or sign, if it comes: no word is a sign, too.
func (r *reader) took(s string) bool {
	if !r.comes(lex.TWord) && !r.comes(lex.TSign) || r.rest[0].Text != s {
		return false
	}
	r.take()
	return true
}

func (r *reader) comes(kind int) bool {
	return len(r.rest) > 0 && r.rest[0].Kind == kind
}

// take takes the token that comes.
func (r *reader) take() string {
	t := r.rest[0]
	r.rest, r.line = r.rest[1:], t.Line
	return t.Text
}

// refuse tells that the token that comes can't stand there, or that one is missing at
// the end; then the line is that of the last one, which was taken.
func (r *reader) refuse() {
	if len(r.rest) > 0 {
		r.take()
	}
	r.rest, r.wrong = nil, true
}
