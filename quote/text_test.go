package quote_test

import (
	"fmt"
	"slices"
	"strings"
	"testing"

	"gong/api"
	"gong/quote"
)

// many are so many elements, of ids of so many bytes.
func many(n, long int) []api.Element {
	var l []api.Element
	for i := range n {
		l = append(l, el(fmt.Sprintf("%0*d", long, i)))
	}
	return l
}

// params is an element of so many params, of values of so many bytes.
func params(n, long int) api.Element {
	return api.Element{Id: "i", Params: slices.Repeat([]api.Param{{Name: "n", Value: strings.Repeat("v", long)}}, n)}
}

// 10.1, 10.2: how many elements there may be, and how many params of each.
func TestHowMany(t *testing.T) {
	for _, n := range []int{1, 2, 64, 255, 256, 4094, 4095, 4096, 4097, 4098, 5000, 8192} {
		want := api.OK
		if n > 4096 {
			want = api.ErrQuote
		}
		for _, data := range [][]api.Element{many(n, 4), {params(n, 0)}, {params(n, 3)}, {el("a"), params(n, 1)}, {params(n, 1), el("z", "x", "y")}} {
			holds(t, data)
			if e := quote.Check(data); e != want {
				t.Errorf("%d: %d", n, e)
			}
			if n > 4096 {
				refuses(t, plainText(data))
				refuses(t, plainText(data)+" behind")
			}
		}
	}
	refuses(t, plainText(many(4096, 4))+"[")
	refuses(t, plainText(many(4096, 4))+"[z")
	reads(t, plainText(many(4096, 4))+"]", many(4096, 4), "]")
	reads(t, plainText(many(4096, 4))+" [z]", many(4096, 4), " [z]")
}

// 10.1: how many bytes the text may have, be they of ids, names, values, or what is
// put ahead of these. Longer texts are read, all the same.
func TestHowLong(t *testing.T) {
	long := func(n int) []api.Element { return of(el("a", "b", strings.Repeat("v", n-8))) }
	for n := 65530; n < 65545; n++ {
		want := api.OK
		if n > 65536 {
			want = api.ErrLong
		}
		ids := many(4096, 14)
		ids[4095].Id = strings.Repeat("x", n-65536+14)
		escaped := long(n)
		escaped[0].Params[0].Value = strings.Repeat("\"", 20000) + strings.Repeat("v", n-8-40000)
		last := long(n - 6)
		last[0].Params = append(last[0].Params, api.Param{Name: "cc"})
		behind := append(long(n-3), el("b"))
		ahead := append(of(el("b")), long(n-3)...)
		named := of(el("a", "n", strings.Repeat("]", 32750), strings.Repeat("n", n-65512), ""))
		for i, data := range [][]api.Element{long(n), ids, escaped, last, behind, ahead, named} {
			if len(plainText(data)) != n {
				t.Fatalf("%d, %d: %d bytes", n, i, len(plainText(data)))
			}
			holds(t, data)
			if _, e := quote.Print(data); e != want {
				t.Errorf("%d, %d: %d", n, i, e)
			}
		}
	}
}

// 10.1: data that are far too long are refused as such, if all else is right.
func TestFarTooLong(t *testing.T) {
	data := of(params(200, 65536), params(200, 65536))
	data[0].Id = "first"
	for _, want := range []api.Code{api.ErrLong, api.ErrQuote} {
		if s, e := quote.Print(data); s != "" || e != want {
			t.Errorf("%.90q, %d", s, e)
		}
		data[1].Params[199].Name = ""
	}
	for _, data := range [][]api.Element{{el("a", "b", strings.Repeat("]", 1<<20))}, many(4096, 32), {params(4096, 12)}} {
		holds(t, data)
		if s, e := quote.Print(data); s != "" || e != api.ErrLong {
			t.Errorf("%.90q, %d", s, e)
		}
	}
}

// 10.4: there and back, of data of many shapes.
func TestThereAndBack(t *testing.T) {
	for n := range 2000 {
		var data []api.Element
		for i := range n % 5 {
			e := el(names()[(n/5+i)%len(names())])
			for j := range (n / 7) % 4 {
				e.Params = append(e.Params, api.Param{Name: names()[(n/3+j*i)%len(names())], Value: values()[(n+5*j+i)%len(values())]})
			}
			data = append(data, e)
		}
		holds(t, data)
	}
	walk(5, func(s string) {
		text, e := quote.Print(of(el("a", "b", s)))
		if text != `[a b="`+plainEscape(s)+`"]` || e != api.OK {
			t.Errorf("%q: %q, %d", s, text, e)
		}
		reads(t, text+s, of(el("a", "b", s)), s)
	}, `"`, `\`, `]`, "=", " ", "a", "\xc3\xa4")
}
