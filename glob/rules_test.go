package glob_test

import (
	"strings"
	"sync"
	"testing"

	"gong/api"
	"gong/glob"
)

// oddBytes are so many bytes that no chance makes, but look so.
func oddBytes(long, from int) string {
	room := make([]byte, long)
	for i := range room {
		x := uint64(from+i+1) * 0x9E3779B97F4A7C15
		x = (x ^ x>>30) * 0xBF58476D1CE4E5B9
		x = (x ^ x>>27) * 0x94D049BB133111EB
		room[i] = byte(x ^ x>>31)
	}
	return string(room)
}

// oddText is so many of the symbols' bytes, picked likewise.
func oddText(long, from int, symbols string) string {
	room := []byte(oddBytes(long, from))
	for i := range room {
		room[i] = symbols[int(room[i])%len(symbols)]
	}
	return string(room)
}

// P1, R5: every call ends at all arguments; what is refused answers nothing.
func TestAllArguments(t *testing.T) {
	const long = 1 << 16
	texts := []string{"", strings.Repeat("*", long), strings.Repeat("[", long), strings.Repeat(`\`, long), strings.Repeat("\xff", long), strings.Repeat("[a]", long), strings.Repeat("[", 256), strings.Repeat(`\`, 255), strings.Repeat(`\`, 256), strings.Repeat("[!", 128), "[" + strings.Repeat("a-", 127)}
	for i := range 300 {
		texts = append(texts, oddBytes(i, 1000*i), "["+oddBytes(i%9, 1000*i)+"]", `\`+oddBytes(i%5, 3*i), oddBytes(i%7, i)+"*"+oddBytes(i%3, i), oddText(1+i%20, 500*i, `*?[]!-\ab`))
	}
	for _, s := range texts {
		holds(t, s, "a", "\x00\xff", texts[(7*len(s)+1)%len(texts)])
		if len(s) <= 128 {
			matches(t, glob.Escape(s), s, true)
		}
		if n := len(s) + strings.Count(s, "*") + strings.Count(s, "?") + strings.Count(s, "[") + strings.Count(s, `\`); len(glob.Escape(s)) != n {
			t.Errorf("Escape(%.90q) has %d bytes", s, len(glob.Escape(s)))
		}
	}
}

// P1: patterns of many *, that a text fails at its end, don't take for ever.
func TestManyStars(t *testing.T) {
	text := strings.Repeat("a", 1<<18)
	for _, x := range []struct {
		pattern string
		want    bool
	}{
		{strings.Repeat("a*", 127) + "b", false}, {strings.Repeat("*a", 128), true}, {"*" + strings.Repeat("a", 254) + "b", false}, {strings.Repeat("*aa", 85) + "b", false}, {strings.Repeat("*?", 128), true},
		{strings.Repeat("*", 255) + "b", false}, {strings.Repeat("*", 256), true}, {"*" + strings.Repeat("a", 253) + "b*", false}, {strings.Repeat("?*", 126) + "[!a]", false}, {"b" + strings.Repeat("*a", 127), false},
	} {
		matches(t, x.pattern, text, x.want)
	}
	for i := range 3000 {
		pattern := oddText(i%40, 77*i, "ab*?*")
		holds(t, pattern, oddText(i%90, 91*i, "ab"), oddText(i%200, 17*i, "aaab"), strings.NewReplacer("*", "ab", "?", "b").Replace(pattern))
	}
}

// R1: what is wrong in several ways is refused by what is named first: what is too
// long, and then what is no pattern.
func TestFirstWrongThing(t *testing.T) {
	for _, s := range []string{strings.Repeat("[", 257), strings.Repeat("]", 256) + `\`, strings.Repeat("a", 256) + "[!]", strings.Repeat("[b-a]", 52), strings.Repeat(`\`, 257)} {
		refused(t, s, api.ErrLong, s)
	}
	for _, s := range []string{strings.Repeat("[", 256), strings.Repeat("a", 253) + "[!]", strings.Repeat("[b-a]", 51), strings.Repeat(`\`, 255)} {
		refused(t, s, api.ErrGlob, s)
	}
}

// R2: what the chapter does not refuse may be: any bytes, UTF-8 or not, ranges that
// overlap, sets of all bytes or of none, and a * behind a *; texts of any length.
func TestWhatIsNotRefused(t *testing.T) {
	long := strings.Repeat("\x00\xff", 1<<20)
	for _, x := range []struct {
		pattern, text string
		want          bool
	}{
		{"\xff\xfe\x00\n", "\xff\xfe\x00\n", true}, {"[\xff\xfe]", "\xfe", true}, {"[a-cb-da-d]", "d", true}, {"[aaa]", "a", true}, {"[\x00-\xff]", "\n", true}, {"[!\x00-\xff]", "a", false}, {"*[!\x00-\xff]*", "a", false}, {"***a***", "a", true},
		{"*\xff", long, true}, {"\x00*\x00", long, false}, {"\x00*a*", long, false}, {"*?\x00?", long, true}, {"*", long, true}, {"?", long, false}, {"", long, false},
	} {
		matches(t, x.pattern, x.text, x.want)
	}
	if s := glob.Escape(long); s != long {
		t.Error(len(s))
	}
	if s := glob.Escape(strings.Repeat("*", 1<<20)); s != strings.Repeat(`\*`, 1<<20) {
		t.Error(len(s))
	}
}

// R4, R7: patterns know nothing of one another; a question changes nothing, whoever
// asks, and of whatever it asked ahead.
func TestPatternsAreTheirOwn(t *testing.T) {
	a, b, c := parsed(t, `a*[b-d]`), parsed(t, `a*[b-d]`), parsed(t, `\a\*`)
	var all sync.WaitGroup
	for i := range 8 {
		all.Go(func() {
			for k := range 300 {
				s := oddText(1+k%9, 100*i+k, "abcde")
				if a.Match(s) != b.Match(s) || a.Match("a"+s) != strings.Contains("bcd", s[len(s)-1:]) || c.Match(s) || !c.Match("a*") {
					t.Errorf("%q", s)
				}
				if s, ok := c.Plain(); s != "a*" || !ok || c.Text() != `\a\*` || a.Text() != `a*[b-d]` {
					t.Errorf("%q, %t", s, ok)
				}
				if s, ok := b.Plain(); s != "" || ok {
					t.Errorf("%q, %t", s, ok)
				}
			}
		})
	}
	all.Wait()
	for range 3 {
		if p, e := glob.Parse("[b-a]"); p != nil || e != api.ErrGlob {
			t.Error(p != nil, e)
		}
		matches(t, "a*[b-d]", "ad", true)
	}
}
