package glob_test

import (
	"strings"
	"testing"

	"gong/api"
	"gong/glob"
)

// walk goes through all texts of at most so many of the symbols.
func walk(most int, see func(s string), symbols ...string) {
	var on func(s string, left int)
	on = func(s string, left int) {
		see(s)
		for _, x := range symbols {
			if left > 0 {
				on(s+x, left-1)
			}
		}
	}
	on("", most)
}

// shorts are all texts of at most so many of the symbols.
func shorts(most int, symbols ...string) (all []string) {
	walk(most, func(s string) { all = append(all, s) }, symbols...)
	return all
}

func of(c int) string {
	return string([]byte{byte(c)})
}

// 13.1, 13.2: all short texts of what has a meaning, as patterns.
func TestShortPatterns(t *testing.T) {
	texts := shorts(2, "a", "b", "]", "-", "!", `\`)
	walk(4, func(s string) { holds(t, s, texts...) }, "*", "?", "[", "]", "!", "-", `\`, "a", "b")
}

// 13.1, 13.2: all short texts behind a [, and what they leave behind them.
func TestShortSets(t *testing.T) {
	walk(6, func(s string) { holds(t, "["+s, "a", "!", "-", "]") }, "]", "!", "-", `\`, "a", "b")
	walk(4, func(s string) {
		holds(t, "["+s+"]*", "", "a", "ab", "b]", `\`)
		holds(t, "?[!"+s+"]", "aa", "bb", "a!", "ab")
	}, "]", "!", "-", `\`, "a", "b", "[")
}

// 13.2: all short texts with all short patterns of bytes, ? and *.
func TestShortTexts(t *testing.T) {
	texts := shorts(6, "a", "b")
	walk(5, func(pattern string) {
		p := parsed(t, pattern)
		pieces, _ := plainPieces(pattern)
		for _, s := range texts {
			if want := plainMatch(pieces, s); p.Match(s) != want {
				t.Errorf("(%q) Match(%q) = %t", pattern, s, !want)
			}
		}
	}, "a", "b", "?", "*")
}

// 13.1, 13.2: each two bytes as a range: only if the first is not above the second;
// then those from one to the other, and no others, are in it.
func TestEachRange(t *testing.T) {
	for first := range 256 {
		for last := range 256 {
			set := `\` + of(first) + `-\` + of(last) + "]"
			if first > last {
				refused(t, "["+set, api.ErrGlob)
				refused(t, "[!"+set, api.ErrGlob)
				continue
			}
			in, but := parsed(t, "["+set), parsed(t, "[!"+set)
			for c := range 256 {
				want := first <= c && c <= last
				if in.Match(of(c)) != want || but.Match(of(c)) == want {
					t.Fatalf("%q: %d", set, c)
				}
			}
		}
	}
}

// 13.1, 13.2: each byte in each place of a pattern, with each byte.
func TestEachByte(t *testing.T) {
	texts := []string{"ab", `\a`, "a\x00", "\xff\xff"}
	for c := range 256 {
		texts = append(texts, of(c), "a"+of(c))
	}
	for c := range 256 {
		x := of(c)
		for _, pattern := range []string{x, `\` + x, "a" + x, "a\\" + x, "*" + x, "?" + x, x + "*", "[" + x + "]", `[\` + x + "]", "[!" + x + "]", `[!\` + x + "]", "[a" + x + "]", `[a\` + x + "]", "[" + x + "a]", "[" + x + "-\xff]", "[\x00-" + x + "]", "[!a-" + x + "]", "[a]" + x, "[a" + x, "[" + x, "[a-b" + x + "]", "[a" + x + "b]"} {
			holds(t, pattern, texts...)
		}
		want := x
		if strings.Contains(`*?[\`, x) {
			want = `\` + x
		}
		if s := glob.Escape(x); s != want {
			t.Errorf("Escape(%q) = %q", x, s)
		}
	}
}

// 13.3: what is escaped is plain, and matches itself alone.
func TestEscapedMatchesItself(t *testing.T) {
	texts := shorts(3, "*", "?", "[", "]", "!", "-", `\`, "a")
	for c := range 256 {
		texts = append(texts, of(c), of(c)+"a", strings.Repeat(of(c), 128))
	}
	for i, s := range texts {
		escaped := glob.Escape(s)
		p := parsed(t, escaped)
		if plain, ok := p.Plain(); plain != s || !ok {
			t.Errorf("%q: %q, %t", s, plain, ok)
		}
		holds(t, escaped, s)
		for k, other := range texts {
			if (i+k)%7 == 0 || i == k {
				matches(t, escaped, other, s == other)
			}
		}
		for _, other := range []string{s + "a", "a" + s, s + `\`, `\` + s, escaped, strings.Repeat(s, 2)} {
			matches(t, escaped, other, s == other)
		}
	}
}

// 13.3: a pattern behind another one matches what is matched by both, one behind the
// other.
func TestOneBehindTheOther(t *testing.T) {
	patterns := []string{"", "a", "b", "*", "**", "?", "a*", "*a", "*a*", "?*", "*?", "[ab]", "[!a]", `\*`, `\]`, "]", "-", "!a]", "ab", "a?b", "[!!]*", "b*a", "*[a-b]*b", "*ab"}
	texts := shorts(5, "a", "b", "]")
	for _, x := range patterns {
		for _, y := range patterns {
			one, two, both := parsed(t, x), parsed(t, y), parsed(t, x+y)
			for _, s := range texts {
				want := false
				for i := range len(s) + 1 {
					want = want || one.Match(s[:i]) && two.Match(s[i:])
				}
				if both.Match(s) != want {
					t.Errorf("%q behind %q, %q: %t", y, x, s, !want)
				}
			}
		}
	}
}
