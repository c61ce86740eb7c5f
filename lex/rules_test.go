package lex_test

import (
	"slices"
	"strings"
	"sync"
	"testing"

	"gong/api"
	"gong/lex"
)

// oddBytes are so many bytes that no chance makes, but look so.
func oddBytes(long, from int) string {
	room := make([]byte, long)
	for i := range room {
		x := uint64(from+i+1) * 0x9E3779B97F4A7C15
		x = (x ^ x>>30) * 0xBF58476D1CE4E5B9
		x = (x ^ x>>27) * 0x94D049BB133111EB
		room[i] = byte(x ^ x>>31)
	}
	return string(room)
}

// filled is s, made long by what stands for a byte, over and over, ahead of end.
func filled(long int, s, fill, end string) string {
	return s + strings.Repeat(fill, long-len(s)-len(end)) + end
}

// P1, R5: every call ends at all arguments; what is refused answers nothing.
func TestAllArguments(t *testing.T) {
	const long = 1 << 16
	texts := []string{"", "\x00"}
	for _, s := range []string{"a", "1", "$", "$a", `"`, `\`, `""`, `"\`, `"\x`, `"a\"`, "#", "\n", "\r", " ", ";", "#\n", "a\n", ".", "\x00", "\xff", "-", "a ", "\"\n"} {
		texts = append(texts, s, strings.Repeat(s, 9), strings.Repeat(s, long/len(s)), strings.Repeat(s, 4*long), `"`+strings.Repeat(s, 1000), `"`+strings.Repeat(s, 1000)+`"`, "$"+strings.Repeat(s, 1000))
	}
	for i := range 300 {
		texts = append(texts, oddBytes(i, 1000*i), `"`+oddBytes(i%20, 1000*i)+`"`, "a\n"+oddBytes(i%5, 3*i))
	}
	for i, s := range texts {
		holds(t, s)
		if q := lex.Quote(s); q != plainQuote(s) {
			t.Errorf("Quote(%.90q) = %.90q", s, q)
		}
		for kind := -1; kind < 8; kind++ {
			prints(t, []lex.Token{{Kind: kind, Text: s, Line: -i}})
			prints(t, []lex.Token{{Kind: 1, Text: "a"}, {Kind: kind, Text: s}, {Kind: kind, Text: s, Line: -1 << 63}})
		}
	}
	prints(t, make([]lex.Token, 5000))
}

// 14.1: the most bytes that a file may have, whatever they are.
func TestMostBytes(t *testing.T) {
	for _, x := range []struct{ s, fill, end string }{{"", "a", ""}, {"", "7", ""}, {"$", "a", ""}, {`"`, "a", `"`}, {`"`, "\xff", `"`}, {"", " ", ""}, {"", "\n", ""}, {"#", "a", ""}, {"#", "a", "\n"}, {"a#", ".", "\nb"}, {"a", "\n", "b"}, {"\n\"", "a", ""}, {"", "\n", "."}, {".", "a", ""}, {"a", "\n", "\"\n"}} {
		for _, long := range []int{65534, 65535, 65536} {
			holds(t, filled(long, x.s, x.fill, x.end))
		}
		for _, long := range []int{65537, 65538, 1 << 17, 1 << 24} {
			splits(t, filled(long, x.s, x.fill, x.end), nil, 0, api.ErrLong)
		}
	}
	splits(t, filled(1<<16, "", "a", ""), []lex.Token{w(strings.Repeat("a", 1<<16), 1)}, 0, api.OK)
	splits(t, filled(1<<16, "", "\n", "b"), []lex.Token{w("b", 1<<16)}, 0, api.OK)
	splits(t, filled(1<<16, "", "\n", "-"), nil, 1<<16, api.ErrWord)
}

// 14.1: the most tokens that a file may have; the line is that of the first one that
// is too many.
func TestMostTokens(t *testing.T) {
	for _, one := range []string{"a ", "1\n", "$a\n", `""`, ";", "; # ;\n", "\r\n\n{"} {
		for _, n := range []int{4095, 4096, 4097, 4098, 5000} {
			s := strings.Repeat(one, n)
			holds(t, s)
			holds(t, s+"# a")
			if l, _, e := lex.Split(s); (e == api.OK) != (n <= 4096) || e == api.OK && len(l) != n {
				t.Errorf("%d of %q: %d, %d", n, one, len(l), e)
			}
		}
	}
	full := strings.Repeat(";\n", 4096)
	for _, x := range []struct {
		s    string
		line int
	}{{"a", 4097}, {"\n\n\"\"", 4099}, {"# a b\n$c d\ne", 4098}, {"\n1 2 3\n4\n", 4098}, {strings.Repeat(";", 9000), 4097}} {
		splits(t, full+x.s, nil, x.line, api.ErrLong)
	}
	l, line, e := lex.Split(full + "\n# a b c\n\r\t #")
	if len(l) != 4096 || l[4095] != g(";", 4096) || line != 0 || e != api.OK {
		t.Error(len(l), line, e)
	}
}

// R1: what is wrong in several ways is refused by what is named first: too many bytes,
// then what is no token, then too many tokens.
func TestFirstWrongThing(t *testing.T) {
	full := strings.Repeat("a\n", 4096)
	splits(t, full+filled(1<<16, "", ".", ""), nil, 0, api.ErrLong)
	splits(t, filled(1<<16+1, ".", ";", ""), nil, 0, api.ErrLong)
	splits(t, filled(1<<16, ".", ";", ""), nil, 1, api.ErrWord)
	splits(t, full+".", nil, 4097, api.ErrWord)
	splits(t, full+". a", nil, 4097, api.ErrWord)
	splits(t, "\n."+full+"a", nil, 2, api.ErrWord)
	splits(t, full+"a\n\n.", nil, 4099, api.ErrWord)
	splits(t, full+full+"\"\n$", nil, 8193, api.ErrWord)
	splits(t, "\"\n"+"$\n.", nil, 1, api.ErrWord)
	splits(t, "$\n"+"\"\n.", nil, 1, api.ErrWord)
}

// R2: what the chapter does not refuse may be: tokens of any length and line, lists of
// any length, texts of any bytes, and files whose tokens mean nothing.
func TestWhatIsNotRefused(t *testing.T) {
	long := strings.Repeat("a1", 1<<19)
	for _, k := range []lex.Token{w(long, 0), f("1"+long, -1), d(long, 1<<62), x(long+"\x00\xff\n", -1<<63)} {
		s, e := lex.Print([]lex.Token{k, k})
		want, _ := plainPrint([]lex.Token{k, k})
		if s != want || e != api.OK {
			t.Error(len(s), e)
		}
	}
	if s, e := lex.Print(slices.Repeat([]lex.Token{g(";", 1), x("", 1)}, 1<<15)); s != strings.Repeat(";\n\"\" ", 1<<15) || e != api.OK {
		t.Error(len(s), e)
	}
	if s := lex.Quote(strings.Repeat("\xff", 1<<20)); s != `"`+strings.Repeat(`\xff`, 1<<20)+`"` {
		t.Error(len(s))
	}
	splits(t, ")}{;;=a 00..1 $#.#", []lex.Token{g(")", 1), g("}", 1), g("{", 1), g(";", 1), g(";", 1), g("=", 1), w("a", 1), f("00..1", 1), d("#.#", 1)}, 0, api.OK)
}

// R3: no tokens are the same, be they nil or empty.
func TestNothing(t *testing.T) {
	for _, l := range [][]lex.Token{nil, {}, make([]lex.Token, 0, 9)} {
		if s, e := lex.Print(l); s != "" || e != api.OK {
			t.Errorf("%q, %d", s, e)
		}
	}
	for _, s := range []string{"", " ", "#", "\n\n"} {
		splits(t, s, nil, 0, api.OK)
	}
}

// R4, R7: what is handed in stays, its spare room, and what lies behind its length, too.
func TestArgumentsStay(t *testing.T) {
	whole := append(slices.Clone(some), lex.Token{Kind: 9}, w("", 1))
	all := slices.Clone(whole)
	want, _ := plainPrint(some)
	for range 3 {
		if s, e := lex.Print(all[:len(some)]); s != want || e != api.OK {
			t.Errorf("%q, %d", s, e)
		}
		if s, e := lex.Print(all[:len(some)+1]); s != "" || e != api.ErrWord {
			t.Errorf("%q, %d", s, e)
		}
		if !slices.Equal(all, whole) {
			t.Error(tell(all))
		}
	}
}

// R4, R7: an answer is its own, its spare room, too, whoever asks, and whatever was
// asked ahead.
func TestAnswersAreTheirOwn(t *testing.T) {
	const s = "set node = $host; # a remark\n1 \"\\x41\""
	want := []lex.Token{w("set", 1), w("node", 1), g("=", 1), d("host", 1), g(";", 1), f("1", 2), x("A", 2)}
	var kept [5][]lex.Token
	var all sync.WaitGroup
	for i := range kept {
		all.Go(func() {
			for range 100 {
				splits(t, "a\n.", nil, 2, api.ErrWord)
				l, line, e := lex.Split(s)
				if !slices.Equal(l, want) || line != 0 || e != api.OK {
					t.Errorf("%s, %d, %d", tell(l), line, e)
				}
				kept[i] = l
			}
		})
	}
	all.Wait()
	for i, l := range kept {
		for k := range l[:cap(l)] {
			l[:cap(l)][k] = w(strings.Repeat("y", i), i)
		}
	}
	for i, l := range kept {
		for _, k := range l[:cap(l)] {
			if k != w(strings.Repeat("y", i), i) {
				t.Errorf("%d: %q", i, k.Text)
			}
		}
	}
	splits(t, s, want, 0, api.OK)
}
