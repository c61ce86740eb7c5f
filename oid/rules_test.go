package oid_test

import (
	"slices"
	"strings"
	"testing"

	"gong/api"
	"gong/oid"
)

// P1, R5: every call ends at all arguments; what is refused answers nothing.
func TestAllArguments(t *testing.T) {
	all := append(wrongTexts(), "1.3", "1.3.6.1", "2.4294967215", strings.Repeat("1.", 127)+"1", "\x2b\x06", "\xff\xff\xff\xff\xff\xff\xff\xff\xff\xff", strings.Repeat("\x00", 127), strings.Repeat("\x81", 1<<16), strings.Repeat("1.", 1<<20), strings.Repeat("9", 1<<20))
	for _, s := range all {
		if arcs, e := oid.Arcs(s); (len(arcs) == 0) != (e != api.OK) || e != api.OK && e != api.ErrOid {
			t.Errorf("Arcs(%.80q) = %v, %d", s, arcs, e)
		}
		if body, e := oid.Encode(s); (body == "") != (e != api.OK) || e != api.OK && e != api.ErrOid {
			t.Errorf("Encode(%.80q) = %q, %d", s, body, e)
		}
		if text, e := oid.Decode(s); (text == "") != (e != api.OK) || e != api.OK && e != api.ErrOid {
			t.Errorf("Decode(%.80q) = %q, %d", s, text, e)
		}
		for _, n := range append(odd(), 0, 1, 4294967295) {
			if text, e := oid.Child(s, n); (text == "") != (e != api.OK) {
				t.Errorf("Child(%.80q, %d) = %q, %d", s, n, text, e)
			}
		}
		for _, other := range []string{"", s, "1.3", "1.3.6.1.4", "\xff", strings.Repeat("1.", 127) + "1"} {
			within := oid.Within(other, s)
			if rest, e := oid.Rest(other, s); within != (e == api.OK) || e != api.OK && rest != "" {
				t.Errorf("Rest(%.80q, %.80q) = %q, %d", other, s, rest, e)
			}
			if oid.Less(other, s) && oid.Less(s, other) {
				t.Errorf("%.80q, %.80q: each stands ahead", other, s)
			}
		}
	}
	for _, n := range odd() {
		for long := range 5 {
			noText(t, slices.Repeat([]int{n}, long))
		}
	}
}

// R1: of several things that are wrong the first one is answered.
func TestFirstWrongThing(t *testing.T) {
	full := strings.Repeat("1.", 127) + "1"
	for _, x := range []struct {
		s    string
		arc  int
		code api.Code
	}{
		{"1", -1, api.ErrOid}, {full + ".1", -1, api.ErrOid}, {full, -1, api.ErrRange}, {full, 1 << 32, api.ErrRange}, {full, 1, api.ErrOid},
	} {
		if s, e := oid.Child(x.s, x.arc); s != "" || e != x.code {
			t.Errorf("Child(%q, %d) = %q, %d", x.s, x.arc, s, e)
		}
	}
}

// R2: what the chapter does not refuse may be: identifiers that nobody was given,
// arcs that are all 0 or all the most, a child of any other.
func TestWhatIsNotRefused(t *testing.T) {
	for _, arcs := range [][]int{{0, 0}, {0, 39}, {1, 39}, {2, 40}, {2, 4294967215}, make([]int, 128), append([]int{2, 4294967215}, slices.Repeat([]int{4294967295}, 126)...)} {
		isOne(t, plainText(arcs), arcs, plainBody(arcs))
		for long := 2; long < len(arcs); long++ {
			root := plainText(arcs[:long])
			if s, e := oid.Child(root, arcs[long]); s != plainText(arcs[:long+1]) || e != api.OK {
				t.Errorf("Child(%q, %d) = %q, %d", root, arcs[long], s, e)
			}
			if s, e := oid.Rest(root, plainText(arcs)); s != plainText(arcs[long:]) || e != api.OK {
				t.Errorf("Rest(%q) = %q, %d", root, s, e)
			}
		}
	}
}

// R3: no arcs, nil or empty, are none's.
func TestNoArcs(t *testing.T) {
	noText(t, nil)
	noText(t, []int{})
	noText(t, make([]int, 0, 8))
}

// R4: arcs that are handed in are not changed, and what lies behind them is neither
// read nor written.
func TestArcsStay(t *testing.T) {
	room := []int{1, 3, 6, -1, -2, 1 << 40}
	for range 2 {
		if s, e := oid.Text(room[:3]); s != "1.3.6" || e != api.OK {
			t.Errorf("%q, %d", s, e)
		}
		noText(t, room[:4])
	}
	if !slices.Equal(room, []int{1, 3, 6, -1, -2, 1 << 40}) {
		t.Error(room)
	}
}

// R4, R7: an answer is its own: it stays, spare room too, whatever is called later.
func TestAnswersAreTheirOwn(t *testing.T) {
	want := []int{1, 3, 6, 1, 4}
	first, _ := oid.Arcs("1.3.6.1.4")
	last, _ := oid.Arcs("1.3.6.1.4")
	for i := range last[:cap(last)] {
		last[:cap(last)][i] = -1
	}
	for range 2 {
		body, _ := oid.Encode("1.3.6.1.4")
		text, _ := oid.Decode(body)
		child, _ := oid.Child(text, 7)
		rest, _ := oid.Rest("1.3.6", child)
		oid.Encode("2.999.3")
		oid.Decode("\x88\x37\x03")
		oid.Child("1", 7)
		oid.Rest("1.4", child)
		if body != "\x2b\x06\x01\x04" || text != "1.3.6.1.4" || child != "1.3.6.1.4.7" || rest != "1.4.7" {
			t.Errorf("%q %q %q %q", body, text, child, rest)
		}
		if again, e := oid.Arcs("1.3.6.1.4"); !slices.Equal(again, want) || e != api.OK || !slices.Equal(first, want) {
			t.Error(again, e, first)
		}
		if !oid.Within("1.3", child) || !oid.Less(text, child) || oid.Within(child, text) || oid.Less(child, text) {
			t.Error("not the same")
		}
	}
}

// R6: numbers stand without a 0 ahead, and are read just so.
func TestNumbersAsText(t *testing.T) {
	for _, n := range []int{0, 1, 9, 10, 100, 1000000000, 4294967295} {
		s, e := oid.Child("1.0", n)
		arcs, c := oid.Arcs(s)
		if e != api.OK || c != api.OK || len(arcs) != 3 || arcs[2] != n || strings.HasPrefix(s[4:], "0") != (n == 0) {
			t.Errorf("%d: %q, %v", n, s, arcs)
		}
		isNone(t, "1.0.0"+s[4:])
		isNone(t, "1.0.+"+s[4:])
	}
}
