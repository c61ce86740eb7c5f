package pdu_test

import (
	"slices"
	"strings"
	"testing"

	"gong/api"
	"gong/oid"
	"gong/pdu"
)

// 8.2: units are the same, if all their parts are.
func TestSame(t *testing.T) {
	null, b := api.Value{Kind: api.VNull}, one().Binds
	units := []pdu.Unit{{}, one(), {Tag: 162}, {Tag: 166}, {Tag: 167}, {Tag: -1}, {Tag: 167, Request: 1}, {Tag: 167, Status: 1}, {Tag: 167, Index: 1}, {Tag: 167, Request: -1}, {Request: 1 << 40}, {Status: 1 << 40}, {Index: 1 << 40},
		{Tag: 167, Request: 1, Status: 2}, {Tag: 167, Request: 2, Status: 1}, {Tag: 167, Status: 1, Index: 2}, {Tag: 167, Request: 1, Index: 2},
		{Binds: b[:1]}, {Binds: b[1:2]}, {Binds: b[:2]}, {Binds: b}, {Binds: b[:len(b)-1]}, {Binds: []api.Bind{b[1], b[0]}}, {Binds: []api.Bind{b[0], b[0]}}, {Binds: make([]api.Bind, 1)}, {Binds: make([]api.Bind, 2)},
		{Binds: []api.Bind{{Oid: "1.3", V: null}}}, {Binds: []api.Bind{{Oid: "1.3.0", V: null}}}, {Binds: []api.Bind{{Oid: "1.03", V: null}}}, {Binds: []api.Bind{{V: null}}},
		{Binds: []api.Bind{{Oid: "1.3", V: api.Value{Kind: 2}}}}, {Binds: []api.Bind{{Oid: "1.3", V: api.Value{Kind: 2, N: 5}}}}, {Binds: []api.Bind{{Oid: "1.3", V: api.Value{Kind: 65, N: 5}}}},
		{Binds: []api.Bind{{Oid: "1.3", V: api.Value{Kind: 4}}}}, {Binds: []api.Bind{{Oid: "1.3", V: api.Value{Kind: 4, S: "a"}}}}, {Binds: []api.Bind{{Oid: "1.3", V: api.Value{Kind: 4, S: "A"}}}}, {Binds: []api.Bind{{Oid: "1.3", V: api.Value{Kind: 4, S: "a\x00"}}}}, {Binds: []api.Bind{{Oid: "1.3", V: api.Value{Kind: 68, S: "a"}}}}, {Binds: []api.Bind{{Oid: "1.3", V: api.Value{Kind: 2, S: "a"}}}},
	}
	for i, u := range units {
		for j, w := range units {
			w.Binds = slices.Clone(w.Binds)
			if pdu.Same(u, w) != (i == j) {
				t.Errorf("%v, %v: %v", tell(u), tell(w), i != j)
			}
		}
	}
}

// 8.2: which binds are found.
func TestFind(t *testing.T) {
	var binds []api.Bind
	for i, s := range []string{"1.3.6.1", "1.3.6", "1.3.6.1.4", "1.3.61", "1.3.60.1", "2.999", "1.3.6.10", "1.3.6.1", "0.0", "1.3", "1.3.6.1.4.1", "", "1", "1.3.6.1.", "1.3.06.1", "1.3.6.1x"} {
		binds = append(binds, api.Bind{Oid: s, V: api.Value{Kind: api.VInt, N: i}})
	}
	for _, x := range []struct {
		root string
		want []int
	}{
		{"1.3.6.1", []int{0, 2, 7, 10}}, {"1.3.6", []int{0, 1, 2, 6, 7, 10}}, {"1.3", []int{0, 1, 2, 3, 4, 6, 7, 9, 10}}, {"1.3.6.1.4", []int{2, 10}}, {"1.3.6.1.4.1", []int{10}}, {"1.3.6.1.4.1.0", nil}, {"1.3.61", []int{3}}, {"0.0", []int{8}}, {"2.999", []int{5}}, {"2.99", nil},
		{"", nil}, {"1", nil}, {"1.", nil}, {"1.3.6.1.", nil}, {".1.3", nil}, {"1.3.06.1", nil}, {"1.3.6.1x", nil}, {"\x2b", nil}, {"*", nil},
	} {
		var want []api.Bind
		for _, i := range x.want {
			want = append(want, binds[i])
		}
		if got := pdu.Find(binds, x.root); !slices.Equal(got, want) {
			t.Errorf("%q: %v", x.root, got)
		}
		if got := pdu.Find(nil, x.root); len(got) != 0 {
			t.Errorf("%q: %v", x.root, got)
		}
	}
}

// 8.2: each list of few binds, with each root, against the chapter's words.
func TestFindEach(t *testing.T) {
	names := []string{"1.3", "1.3.6", "1.3.6.1", "1.3.61", "1.2", "2.3.6", "1.", "1.3.6.1.2.3.4294967295"}
	for _, a := range names {
		for _, b := range names {
			for _, c := range names {
				binds := []api.Bind{{Oid: a, V: api.Value{Kind: 1}}, {Oid: b}, {Oid: c, V: api.Value{S: "c"}}}
				for _, root := range names {
					var want []api.Bind
					for _, x := range binds {
						if oid.Within(root, x.Oid) {
							want = append(want, x)
						}
					}
					if got := pdu.Find(binds, root); !slices.Equal(got, want) {
						t.Errorf("%v, %q: %v", binds, root, got)
					}
				}
			}
		}
	}
	many := slices.Repeat([]api.Bind{{Oid: "1.3"}, {Oid: "1.2"}, {Oid: "1.3" + strings.Repeat(".1", 127)}}, 3000)
	if got := pdu.Find(many, "1.3"); len(got) != 3000 {
		t.Error(len(got))
	}
}
