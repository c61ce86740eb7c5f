package utf_test

import (
	"math"
	"strings"
	"testing"
	"unicode/utf8"

	"gong/api"
	"gong/utf"
)

// 4.2
func TestMark(t *testing.T) {
	for _, x := range []struct {
		s, rest string
		ok      bool
	}{
		{"\xef\xbb\xbf", "", true}, {"\xef\xbb\xbfabc", "abc", true}, {"\xef\xbb\xbf\xef\xbb\xbfa", "\xef\xbb\xbfa", true},
		{"\xef\xbb\xbf\xff\x00", "\xff\x00", true}, {"\xef\xbb\xbf\xbf", "\xbf", true},
		{"", "", false}, {"abc", "abc", false}, {"\xef", "\xef", false}, {"\xef\xbb", "\xef\xbb", false}, {"\xef\xbba", "\xef\xbba", false},
		{"a\xef\xbb\xbf", "a\xef\xbb\xbf", false}, {" \xef\xbb\xbf", " \xef\xbb\xbf", false}, {"\xbf\xbb\xef", "\xbf\xbb\xef", false},
		{"\xff\xfe", "\xff\xfe", false}, {"\xef\xbb\xbe", "\xef\xbb\xbe", false}, {"\xbb\xbf", "\xbb\xbf", false},
	} {
		if rest, ok := utf.Mark(x.s); rest != x.rest || ok != x.ok {
			t.Errorf("Mark(%q) = %q, %t", x.s, rest, ok)
		}
	}
	for s := range shorts {
		marked := strings.HasPrefix(s, "\xef\xbb\xbf")
		if rest, ok := utf.Mark(s); ok != marked || rest != strings.TrimPrefix(s, "\xef\xbb\xbf") {
			t.Errorf("Mark(%q) = %q, %t", s, rest, ok)
		}
		if rest, ok := utf.Mark("\xef\xbb\xbf" + s); rest != s || !ok {
			t.Errorf("Mark behind which %q stands: %q, %t", s, rest, ok)
		}
	}
}

// shownPlain is the chapter's words for what is shown.
func shownPlain(s string) string {
	const digits = "0123456789abcdef"
	out := ""
	for s != "" {
		r, long := utf8.DecodeRuneInString(s)
		switch {
		case r == utf8.RuneError && long == 1, r < ' ', r == 127:
			out += `\x` + digits[s[0]>>4:][:1] + digits[s[0]&15:][:1]
		case r == '\\':
			out += `\\`
		default:
			out += s[:long]
		}
		s = s[long:]
	}
	return out
}

// 4.2
func TestShown(t *testing.T) {
	for _, x := range []struct{ s, want string }{
		{"a\x00\xff", `a\x00\xff`}, {"", ""}, {"abc", "abc"}, {"\n\t\r", `\x0a\x09\x0d`}, {"\x1f \x7e\x7f", `\x1f ~\x7f`}, {`\`, `\\`}, {`\\x00`, `\\\\x00`},
		{"\x80\xbf\xc0\xaf", `\x80\xbf\xc0\xaf`}, {"\xe2\x82", `\xe2\x82`}, {"\xe2\x82a", `\xe2\x82a`}, {"\xe2\x82\xe2\x82\xac", "\\xe2\\x82\xe2\x82\xac"},
		{"\xe2\x82\xac\xac", "\xe2\x82\xac\\xac"}, {"\xed\xa0\x80", `\xed\xa0\x80`}, {"\xf4\x90\x80\x80", `\xf4\x90\x80\x80`}, {"\xf0\x9f\x94\n", `\xf0\x9f\x94\x0a`},
		{"\xc2\x80\xc2\x85\xc2\x9f", "\xc2\x80\xc2\x85\xc2\x9f"}, {"\xef\xbb\xbf\xef\xbf\xbd", "\xef\xbb\xbf\xef\xbf\xbd"}, {"\xc0\x80", `\xc0\x80`},
		{"\"'\xe2\x80\xa8", "\"'\xe2\x80\xa8"}, {"\xf0\x9f\x94\x94", "\xf0\x9f\x94\x94"}, {"\xfe\xff", `\xfe\xff`},
	} {
		if s := utf.Shown(x.s); s != x.want {
			t.Errorf("Shown(%q) = %q", x.s, s)
		}
	}
	for s := range shorts {
		if got := utf.Shown(s); got != shownPlain(s) {
			t.Errorf("Shown(%q) = %q", s, got)
		}
	}
	for c := range 128 {
		s := "a" + string(rune(c)) + "\xc3\xa4"
		if got := utf.Shown(s); got != shownPlain(s) {
			t.Errorf("Shown(%q) = %q", s, got)
		}
	}
}

// 4.3
func TestWhatIsShown(t *testing.T) {
	seen := map[string]string{}
	look := func(s string) {
		shown := utf.Shown(s)
		if e := utf.Check(shown); e != api.OK {
			t.Errorf("Shown(%q) = %q, which is not UTF-8", s, shown)
		}
		l, _ := utf.Chars(shown)
		for _, c := range l {
			if c < 32 || c == 127 {
				t.Errorf("Shown(%q) = %q, which has a control", s, shown)
			}
		}
		if other, ok := seen[shown]; ok && other != s {
			t.Errorf("%q and %q are both shown as %q", s, other, shown)
		}
		seen[shown] = s
	}
	for s := range shorts {
		look(s)
	}
	for _, s := range append(right(), wrong()...) {
		look(s)
	}
	var walk func(s string, left int) // what is shown of bytes, as bytes: the likeliest to be shown alike
	walk = func(s string, left int) {
		look(s)
		for _, b := range []byte("\\x0f\x00\xff") {
			if left > 0 {
				walk(s+string([]byte{b}), left-1)
			}
		}
	}
	walk("", 6)
}

// cutPlain goes on by characters, as long as they find room.
func cutPlain(s string, most int) string {
	long := 0
	for _, r := range s {
		if long+utf8.RuneLen(r) > most {
			break
		}
		long += utf8.RuneLen(r)
	}
	return s[:long]
}

// 4.2
func TestCut(t *testing.T) {
	for _, x := range []struct {
		s    string
		most int
		want string
	}{
		{"", 0, ""}, {"", 5, ""}, {"abc", 0, ""}, {"abc", 1, "a"}, {"abc", 2, "ab"}, {"abc", 3, "abc"}, {"abc", 4, "abc"}, {"abc", math.MaxInt, "abc"},
		{"\xe2\x82\xac", 0, ""}, {"\xe2\x82\xac", 1, ""}, {"\xe2\x82\xac", 2, ""}, {"\xe2\x82\xac", 3, "\xe2\x82\xac"}, {"\xf0\x9f\x94\x94a", 3, ""}, {"\xf0\x9f\x94\x94a", 4, "\xf0\x9f\x94\x94"},
		{"a\xe2\x82\xacb", 2, "a"}, {"a\xe2\x82\xacb", 3, "a"}, {"a\xe2\x82\xacb", 4, "a\xe2\x82\xac"}, {"a\xe2\x82\xacb", 5, "a\xe2\x82\xacb"}, {"\xef\xbb\xbfa", 3, "\xef\xbb\xbf"},
		{"\xc3\xa4\xc3\xa4", 3, "\xc3\xa4"}, {"\x00\n", 1, "\x00"},
	} {
		if s, e := utf.Cut(x.s, x.most); s != x.want || e != api.OK {
			t.Errorf("Cut(%q, %d) = %q, %d", x.s, x.most, s, e)
		}
	}
	for _, s := range right() {
		for _, most := range []int{0, 1, 2, 3, 4, 5, 6, 7, 8, 1023, 1024, 1025, len(s) - 1, len(s), len(s) + 1, 1 << 32, math.MaxInt} {
			if most < 0 {
				continue
			}
			if got, e := utf.Cut(s, most); got != cutPlain(s, most) || e != api.OK {
				t.Errorf("Cut of %d bytes to %d: %d bytes, %d", len(s), most, len(got), e)
			}
		}
	}
}

// 4.2
func TestCutRefuses(t *testing.T) {
	for _, s := range right() {
		for _, most := range []int{-1, -2, -1 << 32, math.MinInt} {
			noCut(t, s, most, api.ErrRange)
		}
	}
	for _, s := range wrong() {
		for _, most := range []int{0, 1, 2, 3, 4, 1 << 16, math.MaxInt} { // what would be cut off counts, too
			noCut(t, s, most, api.ErrUtf)
		}
	}
	noCut(t, "abc\xff", 3, api.ErrUtf)
	noCut(t, "abc\xff", 0, api.ErrUtf)
}

func noCut(t *testing.T, s string, most int, want api.Code) {
	t.Helper()
	if got, e := utf.Cut(s, most); got != "" || e != want {
		t.Errorf("Cut(%q, %d) = %q, %d", s, most, got, e)
	}
}
