package parse

import (
	"strconv"
	"strings"

	"gong/api"
	"gong/lex"
	"gong/stamp"
)

// writer puts the parts of a book behind one another, as tokens. Who writes looks but
// once, at the end, whether something may not be, or it was too much.
type writer struct {
	file   strings.Builder
	long   int
	tokens int
	wrong  bool
}

// Print is a file that is read as b, but for the lines.
func Print(b api.Book) (string, api.Code) {
	var w writer
	for _, t := range b.Tables {
		w.table(t)
	}
	for _, x := range b.Rules {
		w.rule(x)
	}
	for _, x := range b.Watches {
		w.watch(x)
	}
	switch {
	case w.wrong:
		return "", api.ErrRule
	case !w.fits():
		return "", api.ErrLong
	}
	return w.file.String(), api.OK
}

func (w *writer) table(t api.Table) {
	w.words(tableWord, t.Name)
	w.sign(opens)
	for _, p := range t.Keys {
		w.put(lex.TText, p.Name)
		w.sign(equals)
		w.put(lex.TText, p.Value)
		w.sign(ends)
	}
	w.textClause(elseWord, t.Else)
	w.sign(closes)
}

func (w *writer) rule(x api.Rule) {
	w.words(ruleWord, x.Name)
	w.from(x)
	w.sign(opens)
	for _, t := range x.Tests {
		w.test(t)
	}
	for _, s := range x.Sets {
		w.set(s)
	}
	if x.Drop {
		w.words(dropWord)
		w.sign(ends)
	}
	w.sign(closes)
}

func (w *writer) from(x api.Rule) {
	switch {
	case x.From == api.FLog && x.Oid == "" && !x.Within:
		w.words(logWord)
	case x.From != api.FTrap:
		w.wrong = true
	case x.Within:
		w.words(trapWord, withinWord)
		w.put(lex.TFigure, x.Oid)
	case x.Oid != "":
		w.words(trapWord, isWord)
		w.put(lex.TFigure, x.Oid)
	default:
		w.words(trapWord)
	}
}

func (w *writer) test(t api.Test) {
	w.words(testWord)
	w.put(lex.TField, t.Field)
	if t.Not {
		w.words(unlikeWord)
	} else {
		w.words(likeWord)
	}
	w.put(lex.TText, t.Glob)
	w.sign(ends)
}

func (w *writer) set(s api.Set) {
	w.words(setWord, s.Name)
	ahead := equals
	for _, p := range s.Pieces {
		w.sign(ahead)
		w.piece(p)
		ahead = plus
	}
	w.must(len(s.Pieces) > 0)
	w.sign(ends)
}

func (w *writer) piece(p api.Piece) {
	w.must(p.Kind == api.PTable || p.Table == "")
	switch p.Kind {
	case api.PText:
		w.put(lex.TText, p.Text)
	case api.PField:
		w.put(lex.TField, p.Text)
	case api.PTable:
		w.words(p.Table)
		w.sign(left)
		w.put(lex.TField, p.Text)
		w.sign(right)
	default:
		w.wrong = true
	}
}

func (w *writer) watch(x api.Watch) {
	w.words(watchWord, x.Name, kindWord(x.Kind))
	w.sign(opens)
	w.textClause(classWord, x.Class)
	w.textClause(otherWord, x.Other)
	w.must(isNumber(x.Count))
	w.figureClause(countWord, x.Count, strconv.Itoa(x.Count))
	window, e := stamp.Spell(x.Window)
	w.must(e == api.OK)
	w.figureClause(windowWord, x.Window, window)
	w.raise(x)
	w.sign(closes)
}

// kindWord is the word for that kind of watch; what is no kind has none.
func kindWord(kind int) string {
	for _, k := range watchKinds {
		if k.kind == kind {
			return k.word
		}
	}
	return ""
}

func isNumber(n int) bool {
	return n >= 0 && n <= mostNumber
}

// raise puts what x raises. A level or a text without it could not be read again.
func (w *writer) raise(x api.Watch) {
	w.must(isNumber(x.Level))
	if x.Raise == "" {
		w.must(x.Level == 0 && x.Text == "")
		return
	}
	w.words(raiseWord)
	w.put(lex.TText, x.Raise)
	w.put(lex.TFigure, strconv.Itoa(x.Level))
	w.put(lex.TText, x.Text)
	w.sign(ends)
}

// textClause puts a word and a text, if that is there.
func (w *writer) textClause(word, text string) {
	if text != "" {
		w.words(word)
		w.put(lex.TText, text)
		w.sign(ends)
	}
}

// figureClause puts a word and a figure, if the number that this tells is there.
func (w *writer) figureClause(word string, n int, figure string) {
	if n != 0 {
		w.words(word)
		w.put(lex.TFigure, figure)
		w.sign(ends)
	}
}

func (w *writer) words(l ...string) {
	for _, s := range l {
		w.put(lex.TWord, s)
	}
}

func (w *writer) sign(s string) {
	w.put(lex.TSign, s)
}

// put puts a token behind what is there. What is too much is told, and not kept.
func (w *writer) put(kind int, text string) {
	s, e := lex.Print([]lex.Token{{Kind: kind, Text: text}})
	w.must(e == api.OK)
	w.long += len(s)
	w.tokens++
	if w.fits() {
		w.file.WriteString(s)
	}
}

func (w *writer) fits() bool {
	return w.long <= api.MaxBytes && w.tokens <= api.MaxItems
}

// must tells that something may not be, if it is not so.
func (w *writer) must(ok bool) {
	if !ok {
		w.wrong = true
	}
}
