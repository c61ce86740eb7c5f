package oid_test

import (
	"fmt"
	"slices"
	"strings"
	"testing"

	"gong/api"
	"gong/oid"
)

// plainWithin is the chapter's words for being within, of two identifiers' texts.
func plainWithin(root, s string) bool {
	return s == root || strings.HasPrefix(s, root+".")
}

// wide is an identifier's text, each arc of the same width: what stands ahead of it, does so as a text.
func wide(s string) string {
	var b strings.Builder
	for _, w := range strings.Split(s, ".") {
		b.WriteString(fmt.Sprintf("%10s.", w))
	}
	return b.String()
}

// texts are those of identifiers, none of them twice.
func texts() []string {
	all := []string{
		"0.0", "0.1", "0.9", "0.10", "0.39", "1.0", "1.3", "1.3.6", "1.3.6.1", "1.3.6.10", "1.3.6.1.0", "1.3.6.1.4.1", "1.3.6.1.4.1.9", "1.3.6.1.4.1.99", "1.3.6.1.6.3.1.1.5.3", "1.3.6.2", "1.3.6.11", "1.3.6.100", "1.3.60", "1.3.7", "1.3.10", "1.30", "1.30.6", "1.39", "1.39.4294967295",
		"2.0", "2.5", "2.5.6.1", "2.50", "2.100", "2.999", "2.999.3", "2.1000", "2.4294967215", "2.4294967215.0",
	}
	for _, arcs := range lists() {
		all = append(all, plainText(arcs))
	}
	slices.Sort(all)
	return slices.Compact(all)
}

// 6.2
func TestWithin(t *testing.T) {
	for _, x := range []struct {
		root, s string
		want    bool
	}{
		{"1.3.6.1", "1.3.6.1", true}, {"1.3.6", "1.3.6.1", true}, {"1.3", "1.3.6.1.4.1.9", true}, {"0.0", "0.0.0", true},
		{"1.3.6.1", "1.3.6", false}, {"1.3.6.1", "1.3.6.10", false}, {"1.3.6.1", "1.3.6.10.1", false}, {"1.3.6.10", "1.3.6.1.0", false}, {"1.3", "1.30", false}, {"1.3", "1.30.6", false}, {"1.3", "2.3", false}, {"1.3", "1.4.3", false}, {"1.3.6", "1.3.7.6", false}, {"1.3.6.1", "1.4.6.1", false}, {"1.3.6.1", "1.3.6.2.1", false},
	} {
		if got := oid.Within(x.root, x.s); got != x.want {
			t.Errorf("Within(%q, %q) = %t", x.root, x.s, got)
		}
	}
	all := texts()
	for _, root := range all {
		for _, s := range all {
			if got := oid.Within(root, s); got != plainWithin(root, s) {
				t.Errorf("Within(%q, %q) = %t", root, s, got)
			}
		}
	}
}

// 6.2
func TestRest(t *testing.T) {
	for _, x := range []struct {
		root, s, want string
		code          api.Code
	}{
		{"1.3.6.1", "1.3.6.1", "", api.OK}, {"1.3.6", "1.3.6.1", "1", api.OK}, {"1.3", "1.3.6.1.4", "6.1.4", api.OK}, {"1.3", "1.3.0", "0", api.OK}, {"1.3", "1.3.4294967295", "4294967295", api.OK}, {"1.3", "1.3.90.4294967295", "90.4294967295", api.OK},
		{"1.3.6.1", "1.3.6", "", api.ErrOid}, {"1.3.6.1", "1.3.6.10", "", api.ErrOid}, {"1.3", "2.3.1", "", api.ErrOid}, {"1.3", "1.30", "", api.ErrOid}, {"1.3.6", "1.3.7.6", "", api.ErrOid},
		{"1", "1.3", "", api.ErrOid}, {"", "1.3", "", api.ErrOid}, {"1.3", "", "", api.ErrOid}, {"1.3", "1.3.", "", api.ErrOid}, {"1.3.", "1.3.6", "", api.ErrOid}, {"1.3", "1.3.06", "", api.ErrOid}, {"", "", "", api.ErrOid}, {"1.40", "1.40", "", api.ErrOid}, {"3.1", "3.1.2", "", api.ErrOid},
	} {
		if s, e := oid.Rest(x.root, x.s); s != x.want || e != x.code {
			t.Errorf("Rest(%q, %q) = %q, %d", x.root, x.s, s, e)
		}
	}
	all := texts()
	for _, root := range all {
		for _, s := range all {
			want, code := "", api.ErrOid
			if plainWithin(root, s) {
				want, code = strings.TrimPrefix(s[len(root):], "."), api.OK
			}
			if got, e := oid.Rest(root, s); got != want || e != code {
				t.Errorf("Rest(%q, %q) = %q, %d", root, s, got, e)
			}
		}
	}
	most := strings.Repeat("1.", 127) + "1"
	if s, e := oid.Rest("1.1", most); s != most[4:] || e != api.OK {
		t.Errorf("%q, %d", s, e)
	}
}

// 6.2: what one of two texts is none's of.
func TestPairsWithNone(t *testing.T) {
	for _, bad := range wrongTexts() {
		for _, s := range []string{"0.0", "1.3", "1.3.6.1", "2.4294967215", bad} {
			for _, pair := range [][2]string{{bad, s}, {s, bad}} {
				if oid.Within(pair[0], pair[1]) {
					t.Errorf("Within(%.80q)", pair)
				}
				if oid.Less(pair[0], pair[1]) {
					t.Errorf("Less(%.80q)", pair)
				}
				if rest, e := oid.Rest(pair[0], pair[1]); rest != "" || e != api.ErrOid {
					t.Errorf("Rest(%.80q) = %q, %d", pair, rest, e)
				}
			}
		}
	}
}

// 6.2
func TestLess(t *testing.T) {
	for _, x := range []struct {
		a, b string
		want bool
	}{
		{"1.3", "1.3.6", true}, {"1.3.6", "1.3", false}, {"1.3", "1.3", false}, {"1.3.6.2", "1.3.6.10", true}, {"1.3.6.10", "1.3.6.2", false}, {"1.3.6.9", "1.3.7", true}, {"1.3.7", "1.3.6.9", false},
		{"0.39", "1.0", true}, {"1.39.9", "2.0", true}, {"2.0", "1.39.9", false}, {"2.999", "2.1000", true}, {"1.3.2147483647", "1.3.2147483648", true}, {"1.3.4294967295", "1.3.0", false}, {"1.3.0", "1.3.4294967295", true}, {"1.3", "1.3.0", true},
	} {
		if got := oid.Less(x.a, x.b); got != x.want {
			t.Errorf("Less(%q, %q) = %t", x.a, x.b, got)
		}
	}
	all := texts()
	for _, a := range all {
		for _, b := range all {
			if got := oid.Less(a, b); got != (wide(a) < wide(b)) {
				t.Errorf("Less(%q, %q) = %t", a, b, got)
			}
		}
	}
}

// 6.3: each two stand one way or the other; sorted, each stands ahead of all behind it.
func TestOrderIsOne(t *testing.T) {
	all := texts()
	slices.SortFunc(all, func(a, b string) int {
		switch {
		case oid.Less(a, b):
			return -1
		case oid.Less(b, a):
			return 1
		}
		return 0
	})
	for i, a := range all {
		for j, b := range all {
			if got := oid.Less(a, b); got != (i < j) {
				t.Errorf("%d, %d: Less(%q, %q) = %t", i, j, a, b, got)
			}
		}
	}
	for _, root := range all {
		first := slices.IndexFunc(all, func(s string) bool { return oid.Within(root, s) })
		if first < 0 || all[first] != root {
			t.Fatalf("%q is not the first within it", root)
		}
		last := first
		for last < len(all) && oid.Within(root, all[last]) {
			last++
		}
		for i, s := range all[last:] {
			if oid.Within(root, s) {
				t.Errorf("%q: within it, %q stands %d behind", root, s, i)
			}
		}
	}
}

// 6.2
func TestChild(t *testing.T) {
	most, full := strings.Repeat("1.", 126)+"1", strings.Repeat("1.", 127)+"1"
	for _, x := range []struct {
		s    string
		arc  int
		want string
		code api.Code
	}{
		{"1.3", 6, "1.3.6", api.OK}, {"1.3.6", 0, "1.3.6.0", api.OK}, {"0.0", 4294967295, "0.0.4294967295", api.OK}, {"2.4294967215", 4294967294, "2.4294967215.4294967294", api.OK}, {most, 7, most + ".7", api.OK}, {most, 4294967295, most + ".4294967295", api.OK},
		{"1.3", -1, "", api.ErrRange}, {"1.3", 4294967296, "", api.ErrRange}, {most, -1, "", api.ErrRange},
		{full, 0, "", api.ErrOid}, {full, 1, "", api.ErrOid}, {full, 4294967295, "", api.ErrOid}, {full, -1, "", api.ErrRange}, {full, 4294967296, "", api.ErrRange},
		{"1", 3, "", api.ErrOid}, {"", 1, "", api.ErrOid}, {"1.", 3, "", api.ErrOid}, {"1.40", 3, "", api.ErrOid}, {"3.1", 3, "", api.ErrOid}, {"1", -1, "", api.ErrOid}, {"1.03", 4294967296, "", api.ErrOid}, {full + ".1", 1, "", api.ErrOid}, {full + ".1", -1, "", api.ErrOid},
	} {
		if s, e := oid.Child(x.s, x.arc); s != x.want || e != x.code {
			t.Errorf("Child(%q, %d) = %q, %d", x.s, x.arc, s, e)
		}
	}
	for _, n := range odd() {
		if s, e := oid.Child("1.3", n); s != "" || e != api.ErrRange {
			t.Errorf("Child(%d) = %q, %d", n, s, e)
		}
	}
	for _, bad := range wrongTexts() {
		for _, n := range []int{-1, 0, 3, 4294967295, 4294967296} {
			if s, e := oid.Child(bad, n); s != "" || e != api.ErrOid {
				t.Errorf("Child(%.80q, %d) = %q, %d", bad, n, s, e)
			}
		}
	}
}

// 6.3: a child is within what it is one of, right behind it or its other children, and its rest is the arc.
func TestChildAndRest(t *testing.T) {
	for _, s := range texts() {
		arcs, _ := oid.Arcs(s)
		if len(arcs) == 128 {
			continue
		}
		before := s
		for _, n := range []int{0, 1, 9, 10, 128, 4294967295} {
			child, e := oid.Child(s, n)
			if want := fmt.Sprintf("%s.%d", s, n); child != want || e != api.OK {
				t.Errorf("Child(%q, %d) = %q, %d", s, n, child, e)
			}
			if rest, e := oid.Rest(s, child); rest != fmt.Sprint(n) || e != api.OK {
				t.Errorf("Rest(%q, %q) = %q, %d", s, child, rest, e)
			}
			if !oid.Within(s, child) || oid.Within(child, s) || !oid.Less(before, child) || oid.Less(child, before) {
				t.Errorf("%q, %q, %q", s, before, child)
			}
			before = child
		}
	}
}
