package value_test

import (
	"math"
	"slices"
	"strings"
	"testing"

	"gong/api"
	"gong/ber"
	"gong/oid"
	"gong/value"
)

// short is all texts of these bytes that have at most so many.
func short(bytes string, most int) []string {
	all, ahead := []string{""}, []string{""}
	for range most {
		var next []string
		for _, s := range ahead {
			for i := range len(bytes) {
				next = append(next, s+bytes[i:i+1])
			}
		}
		all, ahead = append(all, next...), next
	}
	return all
}

// bodies are few bytes, all that matter, and more of them at numbers' edges.
func bodies() []string {
	all := append(short("\x00\x01\x2b\x7f\x80\xff", 5), texts()...)
	for _, b := range []string{"\x00", "\x01", "\x5a", "\x7f", "\x80", "\xff"} {
		for _, first := range []string{"", "\x00", "\x01", "\x7f", "\x80", "\xff"} {
			for _, last := range []string{"", "\x00", "\x7f", "\x80", "\xff"} {
				for long := range 11 {
					all = append(all, first+strings.Repeat(b, long)+last)
				}
			}
		}
	}
	for a := range 256 {
		for b := range 256 {
			all = append(all, string([]byte{byte(a), byte(b)}))
		}
	}
	return all
}

// plainDecode is the chapter's words for the value of a kind that has that body:
// the one of those that the bytes could stand for whose body it is.
func plainDecode(kind int, body string) (api.Value, bool) {
	v := api.Value{Kind: kind}
	switch kind {
	case 2, 65, 66, 67, 70:
		for i, b := range []byte(body) {
			if i == 0 && b >= 128 {
				v.N = -1
			}
			v.N = v.N<<8 | int(b)
		}
	case 6:
		v.S, _ = oid.Decode(body)
	default:
		v.S = body
	}
	return v, plainCheck(v) && plainBody(v) == body
}

// 7.1, 7.3: each body, of each kind.
func TestEachBody(t *testing.T) {
	for _, body := range bodies() {
		for _, kind := range kinds {
			want, ok := plainDecode(kind, body)
			if ok {
				hasBody(t, want, body)
			} else {
				noBody(t, kind, body)
			}
		}
	}
}

// values are those that may be, none of them twice.
func values() []api.Value {
	seen := map[api.Value]bool{}
	var all []api.Value
	put := func(v api.Value) {
		if plainCheck(v) && !seen[v] {
			seen[v] = true
			all = append(all, v)
		}
	}
	for _, kind := range kinds {
		for _, n := range edges() {
			put(api.Value{Kind: kind, N: n})
		}
		for n := -70000; n <= 70000; n += 11 {
			put(api.Value{Kind: kind, N: n})
		}
		for _, s := range append(texts(), short("\x00a\xff\x80", 4)...) {
			put(api.Value{Kind: kind, S: s})
		}
	}
	return all
}

// 7.3: there and back, as an element that stands in a text, too.
func TestThereAndBack(t *testing.T) {
	for _, v := range values() {
		s, e := value.Encode(v)
		if e != api.OK {
			t.Errorf("Encode(%d, %d, %.40q) = %d", v.Kind, v.N, v.S, e)
		}
		p, rest, e := ber.Next(s + "ab")
		if p.Tag != v.Kind || rest != "ab" || e != api.OK {
			t.Errorf("%.40q: %d, %.40q, %d", s, p.Tag, rest, e)
		}
		if back, e := value.Decode(p); back != v || e != api.OK {
			t.Errorf("%d, %d, %.40q: %d, %d, %.40q, %d", v.Kind, v.N, v.S, back.Kind, back.N, back.S, e)
		}
		if short, e := ber.Canon(s); short != s || e != api.OK {
			t.Errorf("%.40q is not in the shortest form, which is %.40q", s, short)
		}
	}
}

// 7.3: each value in one way: unlike ones have unlike elements, and what is read
// is written as it stood.
func TestOneWay(t *testing.T) {
	seen := map[string]api.Value{}
	for _, v := range values() {
		s, _ := value.Encode(v)
		if other, ok := seen[s]; ok {
			t.Errorf("%v and %v are both %.40q", v, other, s)
		}
		seen[s] = v
	}
	for _, body := range bodies() {
		for _, kind := range kinds {
			v, e := value.Decode(ber.Part{Tag: kind, Body: body})
			if e != api.OK {
				continue
			}
			if s, e := value.Encode(v); s != element(kind, body) || e != api.OK {
				t.Errorf("%d, %.40q: %v, then %.40q, %d", kind, body, v, s, e)
			}
		}
	}
}

// 7.1: lengths in whichever form make no other value.
func TestLongForms(t *testing.T) {
	for _, s := range []string{"\x43\x02\x01\x2c", "\x43\x81\x02\x01\x2c", "\x43\x82\x00\x02\x01\x2c", "\x43\x84\x00\x00\x00\x02\x01\x2c"} {
		p, _, _ := ber.Next(s)
		if v, e := value.Decode(p); v != (api.Value{Kind: 67, N: 300}) || e != api.OK {
			t.Errorf("%q: %v, %d", s, v, e)
		}
	}
}

// 7.2, 7.3: big numbers, each as one value.
func TestBig(t *testing.T) {
	for _, x := range []struct {
		n uint64
		v api.Value
	}{
		{0, api.Value{Kind: 70}}, {5, api.Value{Kind: 70, N: 5}}, {1 << 32, api.Value{Kind: 70, N: 1 << 32}}, {1<<63 - 1, api.Value{Kind: 70, N: math.MaxInt}},
		{1 << 63, api.Value{Kind: 70, N: math.MinInt}}, {1<<63 + 1, api.Value{Kind: 70, N: math.MinInt + 1}}, {math.MaxUint64, api.Value{Kind: 70, N: -1}}, {math.MaxUint64 - 255, api.Value{Kind: 70, N: -256}},
	} {
		if v := value.Big(x.n); v != x.v || value.Check(v) != api.OK {
			t.Errorf("Big(%d) = %v", x.n, v)
		}
	}
	var seen []uint64
	for _, n := range edges() {
		seen = append(seen, uint64(n), uint64(n)^1<<63)
	}
	for _, n := range seen {
		v := value.Big(n)
		p, _, _ := ber.Next(element(70, plainNumber(modulo(int(n)))))
		if back, e := value.Decode(p); back != v || e != api.OK {
			t.Errorf("%d: %v, %v, %d", n, v, back, e)
		}
		if u, e := ber.Unsigned(p.Body); u != n || e != api.OK {
			t.Errorf("%d: %d, %d", n, u, e)
		}
	}
	slices.Sort(seen)
	for i, n := range seen[1:] {
		if a, b := value.Big(n), value.Big(seen[i]); (a == b) != (n == seen[i]) {
			t.Errorf("%d, %d: %v, %v", n, seen[i], a, b)
		}
	}
}
