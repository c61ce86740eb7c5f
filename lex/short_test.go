package lex_test

import (
	"strings"
	"testing"

	"gong/api"
	"gong/lex"
)

// walk goes through all texts of at most so many of the symbols.
func walk(most int, see func(s string), symbols ...string) {
	var on func(s string, left int)
	on = func(s string, left int) {
		see(s)
		for _, x := range symbols {
			if left > 0 {
				on(s+x, left-1)
			}
		}
	}
	on("", most)
}

// 14.1, 14.3: all short texts of what has a meaning, as files.
func TestShortFiles(t *testing.T) {
	walk(4, func(s string) { holds(t, s) }, "a", "7", "_", "-", ".", "$", "#", "@", `"`, `\`, "n", "\n", " ", ";", "\xff")
	walk(5, func(s string) { holds(t, s) }, "a", "7", "$", "#", `"`, "\n", " ", "-")
}

// 14.1: all short texts within a text.
func TestShortTexts(t *testing.T) {
	walk(4, func(s string) { holds(t, "\n\""+s+"\"") }, "a", "F", "g", "0", "n", "t", "x", "X", `\`, `"`, "\n")
	walk(3, func(s string) {
		holds(t, `"`+s)
		holds(t, `"\x`+s+`"`)
		holds(t, `"\`+s+`" a`)
	}, "a", "F", "g", "0", "n", "t", "x", `\`, `"`, "\n", "\t", " ", "\x1f", "\x7f", "\xff", "+", "_")
}

// 14.1, 14.2: each byte in each place of tokens, and between them.
func TestEachByte(t *testing.T) {
	for c := range 256 {
		b := of(c)
		for _, s := range []string{b, b + b, b + "a", "a" + b, "a" + b + "a", "7" + b, "7" + b + "7", "$" + b, "$a" + b, "$a" + b + "a", "$" + b + "\"\"", `"` + b, `"` + b + `"`, `"a` + b + `a"`, `"\` + b, `"\` + b + `"`, `"\` + b + `00"`, `"\x` + b + `0"`, `"\x0` + b + `"`, `"\x` + b + b + `"`, "\"\"" + b, b + "\"\"", ";" + b + ";", "#" + b + "\na", "# " + b + " .\n" + b, "\n" + b + "\n" + b + "\n-", "a " + b, b + " a", "(" + b + ")"} {
			holds(t, s)
		}
		for _, s := range []string{b, b + b, "a" + b, b + "a", "1" + b, b + "1", "a" + b + "1", b + ";", ";" + b, " " + b} {
			for kind := range 7 {
				prints(t, []lex.Token{{Kind: kind, Text: s, Line: c}})
			}
			if q := lex.Quote(s); q != plainQuote(s) {
				t.Errorf("Quote(%q) = %q", s, q)
			}
		}
	}
}

// 14.1: each two bytes behind a \x.
func TestEachTwoDigits(t *testing.T) {
	for c := range 256 {
		for k := range 256 {
			holds(t, `"\x`+of(c)+of(k)+`"`)
		}
	}
}

// 14.2, 14.3: each two bytes, quoted and read.
func TestQuotedAndRead(t *testing.T) {
	for c := range 256 {
		for k := range 256 {
			s := of(c) + of(k)
			q := lex.Quote(s)
			if q != plainQuote(s) {
				t.Errorf("Quote(%q) = %q", s, q)
			}
			splits(t, q, []lex.Token{x(s, 1)}, 0, api.OK)
			splits(t, "a"+q+q, []lex.Token{w("a", 1), x(s, 1), x(s, 1)}, 0, api.OK)
		}
	}
}

// some are tokens of each kind that may run into one another, or into what is
// between them.
var some = []lex.Token{w("a", 1), w("b-", 1), f("1", 1), f("2.", 1), d("a", 1), d("#", 1), x("", 1), x("\n;#\"\\", 1), g(";", 1), g("{", 1), g("+", 1), g("=", 1)}

// 14.3: tokens, printed and read, are the same, but for their lines.
func TestThereAndBack(t *testing.T) {
	prints(t, some)
	for _, a := range some {
		for _, b := range some {
			for _, c := range some {
				prints(t, []lex.Token{a, b, c, a})
			}
		}
	}
	for _, k := range known {
		s, e := lex.Print(k.l)
		if e != api.OK {
			t.Fatal(s, e)
		}
		l, line, e := lex.Split(s)
		if line != 0 || e != api.OK {
			t.Fatal(line, e)
		}
		if back, e := lex.Print(l); back != s || e != api.OK {
			t.Errorf("%q, and not %q", back, s)
		}
	}
}

// 14.3: whatever blanks and remarks stand between tokens, ahead and behind: they are
// the same, on the lines that the bytes 10 tell.
func TestBlanksAndRemarks(t *testing.T) {
	gaps := []string{" ", "\t", "\r", "\n", "\r\n", "  \n\n ", " # a\n", " #\n", "\n# \"\n#\n", " # ; { } $ \x00\xff\r\n\t", "\n\n\n# é\n"}
	for _, one := range gaps {
		for _, two := range gaps {
			var b strings.Builder
			var want []lex.Token
			b.WriteString(two)
			for i, k := range some {
				k.Line = 1 + strings.Count(b.String(), "\n")
				want = append(want, k)
				s, _ := plainPrint([]lex.Token{k})
				b.WriteString(s[:len(s)-1] + []string{one, two}[i%2])
			}
			splits(t, b.String(), want, 0, api.OK)
			splits(t, b.String()+"# the end", want, 0, api.OK)
			splits(t, one+b.String()+"-", nil, 1+strings.Count(one+b.String(), "\n"), api.ErrWord)
		}
	}
}

// 14.3: nothing need stand between tokens that do not go on in one another.
func TestNothingBetween(t *testing.T) {
	for _, a := range some {
		for _, b := range some {
			first, _ := plainPrint([]lex.Token{a})
			second, _ := plainPrint([]lex.Token{b})
			first, second = first[:len(first)-1], second[:len(second)-1]
			holds(t, first+second)
			if a.Kind > 3 || b.Kind > 2 {
				splits(t, first+second, []lex.Token{a, b}, 0, api.OK)
			}
		}
	}
}

// 14.1, 14.3: files of tokens, blanks and wrong things, that no chance makes, but look
// so.
func TestOddFiles(t *testing.T) {
	parts := []string{"a", "b-1_", "12", "1.3.6", "$a", "$sd.a@1.b#c", `""`, `"a b"`, `"\x0a\n\\"`, ";", "{", "}", "=", "+", "(", ")", ",", " ", " ", "\n", "\n", "\r\n", "\t", "# r\n", " # \"\n", "#", "-", ".", "\"", "\\", "\xff"}
	const wrong = 5 // the last ones begin no token
	good := 0
	for i := range 20000 {
		var b strings.Builder
		for k, c := range []byte(oddBytes(2+i%23, 40*i)) {
			most := len(parts)
			if i%3 > 0 {
				most -= wrong
			}
			b.WriteString(parts[(int(c)+k)%most])
		}
		holds(t, b.String())
		if _, _, e := lex.Split(b.String()); e == api.OK {
			good++
		}
	}
	if good < 5000 || good > 15000 {
		t.Errorf("%d are files", good)
	}
}
