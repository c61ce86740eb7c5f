package check_test

import (
	"fmt"
	"math"
	"slices"
	"strings"
	"sync"
	"testing"

	"gong/api"
	"gong/check"
	"gong/parse"
)

// oddBytes are so many bytes that no chance makes, but look so.
func oddBytes(long, from int) string {
	room := make([]byte, long)
	for i := range room {
		x := uint64(from+i+1) * 0x9E3779B97F4A7C15
		x = (x ^ x>>30) * 0xBF58476D1CE4E5B9
		x = (x ^ x>>27) * 0x94D049BB133111EB
		room[i] = byte(x ^ x>>31)
	}
	return string(room)
}

// oddTexts are texts of many kinds, long ones among them.
func oddTexts() []string {
	const long = 1 << 20
	l := []string{"", "\x00", "\xff"}
	for _, s := range []string{"a", "\xff", ".", "*", "[", "\\", "1", "1.", "bind.", "sd.", "source", "\xc3\xa4"} {
		for _, ahead := range []string{"", "bind.", "bind#", "sd.", "sd.a.", "bind.1.3."} {
			l = append(l, ahead+s, ahead+strings.Repeat(s, 300), ahead+strings.Repeat(s, long/len(s)))
		}
	}
	for i := range 300 {
		l = append(l, oddBytes(i%40, 1000*i), "sd."+oddBytes(i%9, 1000*i), "bind."+oddBytes(i%5, 3*i))
	}
	return l
}

// P1, R5: every call ends at all arguments; what is refused answers nothing.
func TestAllArguments(t *testing.T) {
	for _, s := range oddTexts() {
		asks(t, s)
		for _, from := range []int{0, 1, 2} {
			holds(t, api.Book{Rules: []api.Rule{{Name: s, Line: 5, From: from, Oid: s, Drop: true}}})
			holds(t, api.Book{Rules: []api.Rule{{Name: s, Line: 5, From: from, Tests: []api.Test{ts(s, "")}, Drop: true}}})
			holds(t, api.Book{Rules: []api.Rule{{Name: s, Line: 5, From: from, Tests: []api.Test{ts("source", s)}, Drop: true}}})
			holds(t, api.Book{Tables: []api.Table{{Name: s}}, Rules: []api.Rule{{Name: s, Line: 5, From: from, Sets: least(set("key", pd(s, "source")))}}})
			holds(t, api.Book{Rules: []api.Rule{{Line: 5, From: from, Sets: least(set("level", pt(s)))}}})
			holds(t, api.Book{Rules: []api.Rule{{Line: 5, From: from, Sets: least(set(s, pf(s), pt(s)))}}})
		}
		holds(t, api.Book{Tables: []api.Table{{Name: s, Keys: []api.Param{kv(s, s), kv(s+"a", s)}, Else: s}}})
		for kind := range 6 {
			holds(t, api.Book{Watches: []api.Watch{{Name: s, Line: 5, Kind: kind, Class: s, Other: s, Window: 1}}})
			holds(t, api.Book{Watches: []api.Watch{{Name: s, Line: 5, Kind: kind, Class: "a", Window: 1, Raise: s, Level: 1, Text: s}}})
			holds(t, api.Book{Watches: []api.Watch{{Name: s, Line: 5, Kind: kind, Class: "a", Count: 2, Window: 1, Raise: "a", Level: 1, Text: s}}})
		}
		finds(t, api.Book{Tables: []api.Table{{Name: s, Keys: []api.Param{kv(s, s)}}}}, s, s, s, true)
		if len(s) <= 1<<17 {
			b, line, e := check.Load(s)
			if want, at, c := parse.Parse(s); !parse.Same(b, want) || line != at || e != c {
				t.Errorf("Load(%.90q) = %v, %d, %d", s, b, line, e)
			}
		}
	}
	for _, n := range []int{math.MinInt, -1, 0, 1, 2, 3, 4, 5, 1 << 32, math.MaxInt} {
		holds(t, api.Book{Rules: []api.Rule{{Line: n, From: n, Sets: least()}}})
		holds(t, api.Book{Rules: []api.Rule{{Line: n, From: 1, Sets: least(set("level", api.Piece{Kind: n, Text: "trap", Table: "t"}))}}})
		holds(t, api.Book{Watches: []api.Watch{{Line: n, Kind: n, Class: "a", Other: "b", Window: n, Count: n, Level: n}}})
	}
	for _, n := range []int{1, 64, 256, 1024, 100000} {
		holds(t, api.Book{Tables: []api.Table{{Keys: make([]api.Param, n)}}})
		holds(t, api.Book{Rules: []api.Rule{{From: 1, Tests: make([]api.Test, n)}}})
		holds(t, api.Book{Rules: []api.Rule{{From: 1, Tests: slices.Repeat([]api.Test{ts("trap", "")}, n), Drop: true}}})
		holds(t, api.Book{Rules: []api.Rule{{From: 1, Sets: make([]api.Set, n)}}})
		holds(t, api.Book{Rules: []api.Rule{{From: 1, Sets: least(set("level", make([]api.Piece, n)...))}}})
		holds(t, api.Book{Rules: []api.Rule{{From: 1, Sets: least(set("level", slices.Repeat([]api.Piece{pt("11")}, n)...))}}})
		holds(t, api.Book{Rules: []api.Rule{{From: 1, Sets: least(set("level", slices.Repeat([]api.Piece{pt("")}, n)...))}}})
	}
}

// P1: a level of the same long text, again and again, is seen to be none before it is
// put together.
func TestLongLevelIsNotMade(t *testing.T) {
	l := slices.Repeat([]api.Piece{pt(strings.Repeat("1", 1<<16))}, 1<<18)
	b := api.Book{Rules: []api.Rule{{Line: 5, From: 1, Sets: least(set("level", l...))}}}
	if line, e := check.Check(b); line != 5 || e != api.ErrCheck {
		t.Error(line, e)
	}
}

// R1: what is too much of comes ahead of what is not right, and tables ahead of rules
// ahead of watches; chapter 15 ahead of this one.
func TestFirstWrongThing(t *testing.T) {
	b := many(65, 257, 65)
	for i := range 3 {
		spoil(&b, i)
	}
	says(t, b, 0, api.ErrLong)
	b = many(3, 3, 3)
	for _, i := range []int{8, 3, 2} {
		spoil(&b, i)
	}
	mayNot(t, b, 1002)
	for _, k := range []struct {
		s    string
		line int
		e    api.Code
	}{
		{"rule r log { }\n}\n$", 3, api.ErrWord}, {"rule r log { }\n}\n", 2, api.ErrRule}, {"rule r log { }\n\n", 1, api.ErrCheck}, {strings.Repeat("table t { }\n", 65) + "rule r log { } }", 66, api.ErrRule}, {strings.Repeat("table t { }\n", 65) + "rule r log { }", 0, api.ErrLong},
	} {
		loads(t, k.s, k.line, k.e)
	}
}

// R2: what the chapter does not refuse may be: names that are none of parse's, logs'
// rules with identifiers, rules from nowhere that need no field, pieces of no kind,
// tables that pieces without one name, pairs with a level and a text, keys and texts of
// any bytes, and classes that can't be events'.
func TestWhatIsNotRefused(t *testing.T) {
	one := func(r api.Rule) api.Book { return api.Book{Rules: []api.Rule{r}} }
	may(t, api.Book{Tables: []api.Table{{}}, Rules: []api.Rule{{Drop: true}}, Watches: []api.Watch{{Kind: 1, Class: "*", Other: "*", Window: 1}}})
	may(t, one(api.Rule{Name: "1", From: 2, Oid: "1.3", Within: true, Sets: least()}))
	may(t, one(api.Rule{From: 1, Within: true, Drop: true}))
	may(t, one(api.Rule{From: -7, Oid: "1.3", Sets: least(set("text", pt("a")), set("level", pt("1")))}))
	may(t, one(api.Rule{From: 1, Sets: least(set("text", api.Piece{}, api.Piece{Kind: 4, Text: "a", Table: "b"}, api.Piece{Kind: -1}))}))
	may(t, one(api.Rule{From: 1, Sets: least(set("text", api.Piece{Kind: 1, Text: "a", Table: "t"}, api.Piece{Kind: 2, Text: "trap", Table: "t"}))}))
	may(t, one(api.Rule{From: 1, Sets: sets(set("node", pt("\xff")), set("class", pt("\x00")), set("key", pt(strings.Repeat("a", 200))), set("text", pt(strings.Repeat("a", 5000))))}))
	may(t, one(api.Rule{From: 2, Sets: least(set("level", api.Piece{Kind: 0}))}))
	for kind := 1; kind <= 2; kind++ {
		may(t, api.Book{Watches: []api.Watch{{Kind: kind, Class: strings.Repeat("a", 200), Other: "\x00\xff", Window: 1, Level: -5, Text: strings.Repeat("\xff", 2000)}}})
	}
	may(t, api.Book{Watches: []api.Watch{{Kind: 4, Class: "a", Window: 1, Raise: "\x00\x7f", Level: 5, Text: "\n\x1b"}}})
	may(t, api.Book{Tables: []api.Table{{Keys: []api.Param{kv("\xff", "\xff"), kv("", strings.Repeat("a", 1<<17))}, Else: "\xff"}}})
}

// R3: lists without an element are the same, be they nil or empty.
func TestNothing(t *testing.T) {
	may(t, api.Book{Tables: []api.Table{}, Rules: []api.Rule{}, Watches: []api.Watch{}})
	may(t, api.Book{Tables: []api.Table{{Keys: []api.Param{}}}, Rules: []api.Rule{{Drop: true, Tests: []api.Test{}, Sets: []api.Set{}}}})
	may(t, api.Book{Rules: []api.Rule{{From: 1, Tests: []api.Test{}, Sets: sets(set("node", []api.Piece{}...), api.Set{Name: "class", Pieces: []api.Piece{}})}}})
	mayNot(t, api.Book{Rules: []api.Rule{{Line: 2, From: 1, Sets: []api.Set{}}}}, 2)
	mayNot(t, api.Book{Rules: []api.Rule{{Line: 2, From: 1, Sets: least(api.Set{Name: "level", Pieces: []api.Piece{}})}}}, 2)
	mayNot(t, api.Book{Rules: []api.Rule{{Line: 2, From: 1, Sets: least(api.Set{Name: "level"})}}}, 2)
	finds(t, api.Book{Tables: []api.Table{{Keys: []api.Param{}, Else: "a"}}}, "", "", "a", true)
	finds(t, api.Book{Tables: []api.Table{}}, "", "", "", false)
}

// roomy is full, with spare room behind each list, and what stands there: if it were
// read, the book might not be used.
func roomy() api.Book {
	b := full()
	b.Tables[0].Keys = append(b.Tables[0].Keys, kv("a", "spare"))[:3]
	b.Tables = append(b.Tables, api.Table{Name: "sev"})[:3]
	r := &b.Rules[0]
	r.Tests = append(r.Tests, ts("spare", "["))[:3]
	for i := range r.Sets {
		n := len(r.Sets[i].Pieces)
		r.Sets[i].Pieces = append(r.Sets[i].Pieces, pf("spare"))[:n]
	}
	r.Sets = append(r.Sets, set("node", pt("spare")))[:5]
	b.Rules[1].Sets = sets(set("node"))[:0]
	b.Rules = append(b.Rules, api.Rule{Name: "spare"})[:3]
	b.Watches = append(b.Watches, api.Watch{Name: "spare"})[:4]
	return b
}

// stretched tells b with what lies behind its lists' lengths.
func stretched(b api.Book) string {
	b.Tables, b.Rules, b.Watches = b.Tables[:4], b.Rules[:4], b.Watches[:5]
	r := b.Rules[0]
	s := fmt.Sprint(b, b.Tables[0].Keys[:4], r.Tests[:4], r.Sets[:6], b.Rules[1].Sets[:1])
	for _, x := range r.Sets {
		s += fmt.Sprint(x.Pieces[:len(x.Pieces)+1])
	}
	return s
}

// R4, R7: what is handed in stays, its spare room, and what lies behind a list's
// length, too, which is not read.
func TestArgumentsStay(t *testing.T) {
	b := roomy()
	before := stretched(b)
	for range 3 {
		may(t, b)
		finds(t, b, "sev", "a", "5", true)
		finds(t, b, "names", "a", "", true)
		finds(t, b, "spare", "a", "", false)
		b.Watches = b.Watches[:5]
		mayNot(t, b, 0)
		b.Watches = b.Watches[:4]
		b.Rules[0].Sets = b.Rules[0].Sets[:6]
		mayNot(t, b, 40)
		b.Rules[0].Sets = b.Rules[0].Sets[:5]
	}
	if after := stretched(b); after != before {
		t.Error(after)
	}
}

// R4, R7: the same call tells the same, whoever asks at the same time; a book that was
// loaded is its own: what is written into it, its spare room, too, is seen in no other.
func TestAnswersAreTheirOwn(t *testing.T) {
	var kept [5]api.Book
	var all sync.WaitGroup
	shared := full()
	for i := range kept {
		all.Go(func() {
			for range 50 {
				b, line, e := check.Load(file)
				if line != 0 || e != api.OK {
					t.Error(line, e)
				}
				kept[i] = b
				may(t, shared)
				finds(t, shared, "sev", "z", "3", true)
				asks(t, "sd.a.b.c")
				if b, line, e := check.Load(file + "rule r log { }"); !parse.Same(b, api.Book{}) || line != 12 || e != api.ErrCheck {
					t.Error(b, line, e)
				}
			}
		})
	}
	all.Wait()
	want, _, _ := parse.Parse(file)
	for _, b := range kept[:4] {
		overwrite(b)
	}
	if !parse.Same(kept[4], want) {
		t.Error(kept[4])
	}
	loads(t, file, 0, api.OK)
	before := fmt.Sprint(kept[4])
	for _, x := range kept[4].Tables {
		_ = append(x.Keys, kv("y", "y"))
	}
	for _, x := range kept[4].Rules {
		_ = append(x.Tests, ts("y", "y"))
		_ = append(x.Sets, set("y"))
		for _, s := range x.Sets {
			_ = append(s.Pieces, pt("y"))
		}
	}
	if after := fmt.Sprint(kept[4]); after != before {
		t.Errorf("%s, and not %s", after, before)
	}
}

// overwrite writes into all lists of b, their spare room, too.
func overwrite(b api.Book) {
	for _, x := range b.Tables {
		l := x.Keys[:cap(x.Keys)]
		for i := range l {
			l[i] = kv("y", "y")
		}
	}
	for _, x := range b.Rules {
		tests := x.Tests[:cap(x.Tests)]
		for i := range tests {
			tests[i] = ts("y", "y")
		}
		all := x.Sets[:cap(x.Sets)]
		for i := range all {
			pieces := all[i].Pieces[:cap(all[i].Pieces)]
			for k := range pieces {
				pieces[k] = pt("y")
			}
			all[i] = set("y")
		}
	}
	for i := range b.Tables[:cap(b.Tables)] {
		b.Tables[:cap(b.Tables)][i] = api.Table{Name: "y"}
	}
	for i := range b.Rules[:cap(b.Rules)] {
		b.Rules[:cap(b.Rules)][i] = api.Rule{Name: "y"}
	}
	for i := range b.Watches[:cap(b.Watches)] {
		b.Watches[:cap(b.Watches)][i] = api.Watch{Name: "y"}
	}
}

// R6: a bind's number stands without a 0 ahead, and with its digits alone.
func TestNumbersAsText(t *testing.T) {
	for _, s := range []string{"1", "7", "10", "100", "1000", "4096"} {
		is(t, "bind#"+s, true, false)
		for _, ahead := range []string{"0", "00", "+", "-", " ", "0x", "_"} {
			is(t, "bind#"+ahead+s, false, false)
		}
		for _, behind := range []string{" ", ".", ".0", "e0", "_0", "\x00"} {
			is(t, "bind#"+s+behind, false, false)
		}
	}
}
