package glob_test

import (
	"regexp"
	"strings"
	"testing"

	"gong/api"
	"gong/glob"
)

// wide is s with a character for each byte, so that a regexp's . is a byte.
func wide(s string) string {
	room := make([]rune, len(s))
	for i := range room {
		room[i] = rune(s[i])
	}
	return string(room)
}

// The chapter's words for a piece and a range, over wide texts.
var (
	rangeForm = regexp.MustCompile(`(?s)(\\.|[^\]\\-])(?:-(\\.|[^\]\\-]))?`)
	pieceForm = regexp.MustCompile(`(?s)\A(?:\*|\?|\[(!)((?:(?:\\.|[^\]\\-])(?:-(?:\\.|[^\]\\-]))?)+)\]|\[((?:\\.|[^\]\\!-])(?:-(?:\\.|[^\]\\-]))?(?:(?:\\.|[^\]\\-])(?:-(?:\\.|[^\]\\-]))?)*)\]|\\(.)|([^*?\[\\]))`)
)

// plainPiece is a piece by the chapter's words.
type plainPiece struct {
	many, byteAlone bool
	of              [256]bool
}

func lastByte(s string) byte {
	room := []rune(s)
	return byte(room[len(room)-1])
}

func plainSet(s string, but bool) (of [256]bool, ok bool) {
	for _, x := range rangeForm.FindAllStringSubmatch(s, -1) {
		first, last := lastByte(x[1]), lastByte(x[1])
		if x[2] != "" {
			last = lastByte(x[2])
		}
		if first > last {
			return of, false
		}
		for c := range of {
			if int(first) <= c && c <= int(last) {
				of[c] = true
			}
		}
	}
	for c := range of {
		of[c] = of[c] != but
	}
	return of, true
}

// plainPieces is pattern, cut by the chapter's words.
func plainPieces(pattern string) (pieces []plainPiece, ok bool) {
	for rest := wide(pattern); rest != ""; {
		x := pieceForm.FindStringSubmatch(rest)
		if x == nil {
			return nil, false
		}
		rest = rest[len(x[0]):]
		var p plainPiece
		ok := true
		switch {
		case x[0] == "*":
			p.many = true
		case x[0] == "?":
			p.of, ok = plainSet("", true)
		case x[1] != "":
			p.of, ok = plainSet(x[2], true)
		case x[3] != "":
			p.of, ok = plainSet(x[3], false)
		default:
			p.byteAlone = true
			p.of[lastByte(x[0])] = true
		}
		if !ok {
			return nil, false
		}
		pieces = append(pieces, p)
	}
	return pieces, true
}

// plainMatch goes through the pieces, with all places in s where each may begin.
func plainMatch(pieces []plainPiece, s string) bool {
	here := make([]bool, len(s)+1)
	here[0] = true
	for _, p := range pieces {
		behind := make([]bool, len(s)+1)
		for i, begins := range here {
			for k := i; p.many && begins && k <= len(s); k++ {
				behind[k] = true
			}
			if !p.many && begins && i < len(s) && p.of[s[i]] {
				behind[i+1] = true
			}
		}
		here = behind
	}
	return here[len(s)]
}

// plainPlain is the text of pieces that are all bytes.
func plainPlain(pieces []plainPiece) (string, bool) {
	var text []byte
	for _, p := range pieces {
		if !p.byteAlone {
			return "", false
		}
		for c, is := range p.of {
			if is {
				text = append(text, byte(c))
			}
		}
	}
	return string(text), true
}

func parsed(t *testing.T, pattern string) *glob.Pattern {
	t.Helper()
	p, e := glob.Parse(pattern)
	if p == nil || e != api.OK {
		t.Fatalf("%q: %d", pattern, e)
	}
	return p
}

// refused holds a pattern to the error that it should be refused with.
func refused(t *testing.T, pattern string, want api.Code, texts ...string) {
	t.Helper()
	if p, e := glob.Parse(pattern); p != nil || e != want {
		t.Errorf("Parse(%.300q): %t, %d, and not %d", pattern, p != nil, e, want)
	}
	for _, s := range append(texts, "", pattern) {
		if ok, e := glob.Match(pattern, s); ok || e != want {
			t.Errorf("Match(%.300q, %.90q) = %t, %d, and not %d", pattern, s, ok, e, want)
		}
	}
}

// matches holds a pattern, and a text, to whether it should match.
func matches(t *testing.T, pattern, s string, want bool) {
	t.Helper()
	if got := parsed(t, pattern).Match(s); got != want {
		t.Errorf("(%.300q) Match(%.90q) = %t", pattern, s, got)
	}
	if got, e := glob.Match(pattern, s); got != want || e != api.OK {
		t.Errorf("Match(%.300q, %.90q) = %t, %d", pattern, s, got, e)
	}
}

// holds holds all that is told of a pattern to the chapter's words.
func holds(t *testing.T, pattern string, texts ...string) {
	t.Helper()
	if len(pattern) > 256 {
		refused(t, pattern, api.ErrLong, texts...)
		return
	}
	pieces, ok := plainPieces(pattern)
	if !ok {
		refused(t, pattern, api.ErrGlob, texts...)
		return
	}
	p := parsed(t, pattern)
	for _, s := range append(texts, "", pattern) {
		matches(t, pattern, s, plainMatch(pieces, s))
	}
	if s := p.Text(); s != pattern {
		t.Errorf("(%q) Text() = %q", pattern, s)
	}
	plain, is := plainPlain(pieces)
	if s, ok := p.Plain(); s != plain || ok != is {
		t.Errorf("(%q) Plain() = %q, %t", pattern, s, ok)
	}
}

// 13.1: what is a pattern, and what is none.
func TestParse(t *testing.T) {
	for _, s := range []string{"", "a", "abc", "*", "**", "?", "*?*", "]", "a]", "!", "-", "a-b", "^", `\a`, `\\`, `\*`, `\?`, `\[`, `\]`, "\\\xff", "\\\x00", "[a]", "[ab]", "[a-b]", "[a-a]", "[a-bc]", "[ca-b]", "[a-bc-d]", "[aa]", "[b-ca-b]",
		"[!a]", "[!!]", "[!!!]", "[!a-b]", "[!!-a]", "[!ab]", "[a!]", "[^]", "[^a]", "[*]", "[?]", "[[]", "[[a]", "[*?[]", `[\]]`, `[\-]`, `[\\]`, `[\a]`, `[\!]`, `[\!a]`, `[!\!]`, `[a\-b]`, `[a-\b]`, `[\a-\b]`, `[\]-\]]`, `[\--\-]`, `[+-\-]`, `[\--0]`, `[!\]]`, `[\\-\]]`, `[\[-\]]`, "[,-.]",
		"[\x00-\xff]", "[\xff]", "[a]]", "[[]]", "[a][b]", "[a]*[b]?", "[a-z0-9]*.example", "core-*[0-3]"} {
		parsed(t, s)
		holds(t, s, "a", "b", "]", "-", "!", "\\", "ab", "core-rtr2")
	}
	for _, s := range []string{`\`, `a\`, `\\\`, "[", "a[", "[a", "[ab", "[]", "[]a]", "[!", "[!]", "[!]a]", "[!a", "[-]", "[-a]", "[a-]", "[a-b-c]", "[a-b-]", "[--a]", "[a--]", "[!-]", "[!-a]", "[!a-]", "[b-a]", `[b-\a]`, `[\b-a]`, "[!b-a]", "[ab-a]", "[a-bd-c]", "[a-[]", "[\xff-\x00]", "[\x80-\x7f]",
		`[\`, `[\]`, `[a\`, `[a\]`, `[a-\`, `[a-\]`, "[a-", "[a-b", `[\a-\b`, "[[", "[[][", "[a][", "[a]][", "a[]", "*[", "?[!]", `*\`, `[a]\`, "[][a]", "[!][a]", "[a-]]", "[a-]b]"} {
		refused(t, s, api.ErrGlob, "a", "b", "]")
		holds(t, s)
	}
}

// 13.1: at most 256 bytes, however few pieces they are.
func TestLong(t *testing.T) {
	const long = 256
	sets := strings.Repeat("[!a-b]", long/6)
	for _, s := range []string{strings.Repeat("a", long), strings.Repeat("*", long), strings.Repeat("?", long), strings.Repeat(`\*`, long/2), "[" + strings.Repeat("a", long-2) + "]", "[!" + strings.Repeat("a-b", (long-4)/3) + "a]", sets + strings.Repeat("]", long-len(sets)), strings.Repeat("\xff", long)} {
		if len(s) != long {
			t.Fatal(len(s), s)
		}
		parsed(t, s)
		holds(t, s, strings.Repeat("a", long), strings.Repeat("a", long-1), strings.Repeat("\xff", long), strings.Repeat("*", long/2))
		for _, x := range []string{s + "a", s + "*", "?" + s, s + s, s + `\`, s + "[", "[" + s} {
			refused(t, x, api.ErrLong)
		}
	}
	refused(t, strings.Repeat("a", long-1)+"[", api.ErrGlob)
	refused(t, strings.Repeat("a", long-1)+`\`, api.ErrGlob)
	refused(t, "["+strings.Repeat("a", long-1), api.ErrGlob)
}

// 13.2, the chapter's example: which texts match.
func TestMatch(t *testing.T) {
	for _, x := range []struct {
		pattern string
		yes, no []string
	}{
		{"core-*[0-3]", []string{"core-rtr2", "core-0", "core-03", "core-93", "core-*[0-3]3"}, []string{"core-rtr9", "core-", "core", "xcore-1", "core-1 ", "Core-1", "", "core-*[0-3]"}},
		{"", []string{""}, []string{"a", " ", "\x00"}},
		{"*", []string{"", "a", "\x00\xff", "*", strings.Repeat("x", 1000)}, nil},
		{"**", []string{"", "a", "ab"}, nil},
		{"?", []string{"a", "?", "\x00", "\xff", "\n", "*"}, []string{"", "ab", "\xc3\xa9"}},
		{"??", []string{"ab", "\xc3\xa9"}, []string{"", "a", "abc"}},
		{"*?", []string{"a", "ab"}, []string{""}},
		{"?*?", []string{"ab", "abc"}, []string{"", "a"}},
		{"a*", []string{"a", "ab", "aa"}, []string{"", "ba", "A"}},
		{"*a", []string{"a", "ba", "aa", "aba"}, []string{"", "ab", "b"}},
		{"*a*", []string{"a", "bab", "ab", "ba"}, []string{"", "b", "A"}},
		{"a*b*c", []string{"abc", "aXbYc", "abbcc", "abcbc", "acbc"}, []string{"", "ac", "acb", "abcb", "bc", "aXYc"}},
		{"*ab*ab*", []string{"abab", "xabyabz", "aabaab"}, []string{"ab", "aba", "abba"}},
		{"*aab", []string{"aab", "aaab", "aaaab", "aabaab"}, []string{"ab", "aaba", "aabb"}},
		{"[a-c]", []string{"a", "b", "c"}, []string{"", "d", "`", "-", "A", "ab"}},
		{"[!a-c]", []string{"d", "`", "-", "!", "\x00", "\xff"}, []string{"", "a", "b", "c", "dd"}},
		{"[a-cx]", []string{"a", "c", "x"}, []string{"d", "w", "y", "-"}},
		{"[!!]", []string{"a", "\x00"}, []string{"!", ""}},
		{"[a!]", []string{"a", "!"}, []string{"b"}},
		{`[\!a]`, []string{"a", "!"}, []string{"b", `\`}},
		{"[^a]", []string{"a", "^"}, []string{"b"}},
		{`[\]\-\\]`, []string{"]", "-", `\`}, []string{"a", "[", `\]`}},
		{"[*?[]", []string{"*", "?", "["}, []string{"", "a", "]", "**"}},
		{"[,-.]", []string{",", "-", "."}, []string{"+", "/"}},
		{"[a]]", []string{"a]"}, []string{"a", "]", "a]]"}},
		{`\*`, []string{"*"}, []string{"", "a", `\*`, "**"}},
		{`\a\[\\`, []string{`a[\`}, []string{`\a[\`, "a["}},
		{"a-b", []string{"a-b"}, []string{"a", "b", "ab"}},
		{"!]", []string{"!]"}, []string{"a", "]"}},
		{"\x00*\xff", []string{"\x00\xff", "\x00a\xff"}, []string{"\x00", "\xff", "\xff\x00"}},
	} {
		for _, s := range x.yes {
			matches(t, x.pattern, s, true)
		}
		for _, s := range x.no {
			matches(t, x.pattern, s, false)
		}
		holds(t, x.pattern, append(x.yes, x.no...)...)
	}
}

// 13.2: the text itself, whether it is plain, and what is escaped.
func TestTextPlainEscape(t *testing.T) {
	for _, x := range []struct {
		pattern, plain string
		ok             bool
	}{
		{"", "", true}, {"a", "a", true}, {"core", "core", true}, {`\a`, "a", true}, {`\*\?\[\\\]`, `*?[\]`, true}, {`a]!-b`, "a]!-b", true}, {`\\*`, "", false}, {`\\\*`, `\*`, true}, {"\x00\\\xff", "\x00\xff", true},
		{"*", "", false}, {"a*", "", false}, {"*a", "", false}, {"?", "", false}, {"a?b", "", false}, {"[a]", "", false}, {`a[\*]`, "", false}, {"[a-a]", "", false}, {"b[!a]", "", false}, {`\[a]`, "[a]", true}, {`\\[a]`, "", false},
	} {
		p := parsed(t, x.pattern)
		if s, ok := p.Plain(); s != x.plain || ok != x.ok {
			t.Errorf("(%q) Plain() = %q, %t", x.pattern, s, ok)
		}
		if s := p.Text(); s != x.pattern {
			t.Errorf("(%q) Text() = %q", x.pattern, s)
		}
	}
	for _, x := range [][2]string{{"", ""}, {"a", "a"}, {"*", `\*`}, {"?", `\?`}, {"[", `\[`}, {`\`, `\\`}, {"]", "]"}, {"!-^", "!-^"}, {"[!a-b]*?", `\[!a-b]\*\?`}, {`\*`, `\\\*`}, {`\\`, `\\\\`}, {"\x00\n\xff\xc3\xa9", "\x00\n\xff\xc3\xa9"}} {
		if s := glob.Escape(x[0]); s != x[1] {
			t.Errorf("Escape(%q) = %q", x[0], s)
		}
	}
}
