package lex

import "strings"

// What stands ahead of tokens, and between them.
const (
	blanks  = "\t\n\r "
	remark  = "#"
	lineEnd = "\n"
)

// fieldMark begins a field.
const fieldMark = "$"

// The signs, and those that a line ends behind.
const (
	signs     = "{}();=+,"
	lastSigns = ";{}"
)

// marks are the bytes that go on being a token of some kind, beside letters and
// digits, which go on being a token of each.
type marks string

const (
	wordMarks   marks = "_-"
	figureMarks marks = "."
	fieldMarks  marks = "._-#@"
)

func (m marks) goOn(c byte) bool {
	return isLetter(c) || isDigit(c) || isOne(c, string(m))
}

func isLetter(c byte) bool {
	return 'A' <= c && c <= 'Z' || 'a' <= c && c <= 'z'
}

func isDigit(c byte) bool {
	return '0' <= c && c <= '9'
}

// isOne tells whether c is one of these bytes.
func isOne(c byte, these string) bool {
	return strings.IndexByte(these, c) >= 0
}

// next reads the token that s begins with, as long as may be; s has a byte. Which
// line it is on can't be told here.
func next(s string) (t Token, behind string, ok bool) {
	switch c := s[0]; {
	case isLetter(c):
		return run(TWord, s, wordMarks.goOn)
	case isDigit(c):
		return run(TFigure, s, figureMarks.goOn)
	case c == fieldMark[0]:
		return run(TField, s[1:], fieldMarks.goOn)
	case c == quotes:
		return text(s[1:])
	case isOne(c, signs):
		return Token{Kind: TSign, Text: s[:1]}, s[1:], true
	}
	return Token{}, "", false
}

// run reads a token of one or more bytes that each go on.
func run(kind int, s string, goesOn func(c byte) bool) (t Token, behind string, ok bool) {
	long := 0
	for long < len(s) && goesOn(s[long]) {
		long++
	}
	if long == 0 {
		return Token{}, "", false
	}
	return Token{Kind: kind, Text: s[:long]}, s[long:], true
}
