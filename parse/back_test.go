package parse_test

import (
	"fmt"
	"strings"
	"testing"

	"gong/api"
	"gong/lex"
	"gong/parse"
)

// 15.3: what is read, printed and read again is the same book, but for its lines, and
// printed again the same file.
func TestThereAndBack(t *testing.T) {
	for _, k := range known {
		b, _, _ := parse.Parse(k.s)
		prints(t, b)
		s, e := parse.Print(b)
		if e != api.OK {
			t.Fatal(k.s)
		}
		back, line, e := parse.Parse(s)
		if !plainSame(without(back), without(b)) || line != 0 || e != api.OK {
			t.Errorf("%q", s)
		}
		if again, e := parse.Print(back); again != s || e != api.OK {
			t.Errorf("%q, %q, %d", s, again, e)
		}
		if !parse.Same(without(back), without(b)) {
			t.Errorf("%q", s)
		}
	}
}

// 15.3: texts of any bytes, wherever there are some, come back.
func TestAnyTexts(t *testing.T) {
	for c := range 256 {
		s := string([]byte{byte(c)})
		for _, s := range []string{s, s + s, "a" + s, s + "1", "\\" + s, s + "\"", " " + s + ";"} {
			prints(t, api.Book{
				Tables:  []api.Table{{Name: "t", Keys: []api.Param{kv(s, ""), kv("", s), kv(s, s)}, Else: s}},
				Rules:   []api.Rule{{Name: "r", From: 1, Tests: []api.Test{ts("a", s), not("a", s)}, Sets: sets(set("a", pt(s), pt(s)))}},
				Watches: []api.Watch{{Name: "w", Kind: 1, Class: s, Other: s, Raise: s, Text: s}},
			})
		}
	}
}

// 15.3: all numbers and spans of some rows come back, or are not printed.
func TestAnyNumbers(t *testing.T) {
	for n := range 3000 {
		for _, n := range []int{n, n * 337, 998000 + n, n * 1000, n * 60 * second, n*1000*second + n%2, n * 86400 * second, 1<<61 - n, (n * 86400 * second) / 7, -n} {
			prints(t, watches(api.Watch{Name: "w", Kind: 1, Count: n}))
			prints(t, watches(api.Watch{Name: "w", Kind: 2, Window: n}))
			prints(t, watches(api.Watch{Name: "w", Kind: 3, Raise: "a", Level: n}))
		}
	}
}

// 15.3: a watch that raises an empty text is read; with a level, or a text behind it, it
// is not printed.
func TestEmptyRaise(t *testing.T) {
	for _, level := range []int{0, 1, 7, 999999} {
		for _, text := range []string{"", "a", "\n"} {
			want := watches(api.Watch{Name: "w", Line: 1, Kind: 3, Level: level, Text: text})
			s := fmt.Sprintf("watch w threshold { raise \"\" %d %s; }", level, lex.Quote(text))
			reads(t, s, want, 0, api.OK)
			b, _, _ := parse.Parse(s)
			if level == 0 && text == "" {
				printed(t, b, "watch w threshold {\n}\n")
			} else {
				unprinted(t, b, api.ErrRule)
			}
		}
	}
}

// 15.3: blanks and remarks between a file's tokens change nothing of its book but the
// lines: each is that of the word that the part begins with.
func TestBlanksAndRemarks(t *testing.T) {
	for _, gap := range []string{" ", "\n", "\t\r\n", " # }\n", "\n\n# table t { }\n\n"} {
		l := wordsOf(t, whole)
		want := wholeBook()
		tables, rules := 0, 0
		for i, word := range l {
			at := 1 + i*strings.Count(gap, "\n")
			switch word { // whole has these words nowhere else
			case "table":
				want.Tables[tables].Line = at
				tables++
			case "rule":
				want.Rules[rules].Line = at
				rules++
			case "watch":
				want.Watches[0].Line = at
			}
		}
		reads(t, strings.Join(l, gap), want, 0, api.OK)
	}
}
