package octet_test

import (
	"math"
	"testing"

	"gong/api"
	"gong/octet"
)

// P1, R5: every call ends at all arguments; what is refused answers nothing, and reads nothing.
func TestAllArguments(t *testing.T) {
	for _, n := range odd() {
		if s, c := octet.Groups(n); (s == "") != (c != api.OK) {
			t.Errorf("Groups(%d) = %q, %d", n, s, c)
		}
		for _, w := range odd() {
			if s, c := octet.Wide(n, w); (s == "") != (c != api.OK) {
				t.Errorf("Wide(%d, %d) = %q, %d", n, w, s, c)
			}
		}
	}
	bytes := append(short("\x00\x01\x03\x7f\x80\xff", 3), "\xff\xff\xff\xff\xff\xff\xff\xff\x7f", "\xff\xff\xff\xff\xff\xff\xff\xff\xff\x00")
	for _, s := range bytes {
		for _, n := range odd() {
			for i, read := range readers() {
				r := octet.Read(s)
				if k, text := read(r, n); r.Code() != api.OK && (k != 0 || text != "" || r.Left() != len(s)) {
					t.Errorf("%d of %q, %d: %d, %q, left %d", i, s, n, k, text, r.Left())
				}
			}
		}
	}
}

// R1: of several things that are wrong the first one is answered.
func TestFirstWrongThing(t *testing.T) {
	for i, x := range []struct {
		read func(r *octet.Reader)
		s    string
		code api.Code
	}{
		{func(r *octet.Reader) { r.Groups(-1) }, "", api.ErrEnd},
		{func(r *octet.Reader) { r.Groups(-1) }, "\x80", api.ErrForm},
		{func(r *octet.Reader) { r.Groups(0) }, "\x81", api.ErrLong},
		{func(r *octet.Reader) { r.Wide(9) }, "", api.ErrRange},
		{func(r *octet.Reader) { r.Wide(8) }, "\xff", api.ErrEnd},
		{func(r *octet.Reader) { r.Bytes(-1) }, "", api.ErrRange},
		{func(r *octet.Reader) { r.Text(1) }, "\x02", api.ErrLong},
		{func(r *octet.Reader) { r.Text(2) }, "\x02", api.ErrEnd},
	} {
		r := octet.Read(x.s)
		if x.read(r); r.Code() != x.code {
			t.Error(i, r.Code())
		}
	}
}

// R2: what the chapter does not refuse may be: any bytes as a text, any code.
func TestWhatIsNotRefused(t *testing.T) {
	for _, c := range []api.Code{-1, 7, api.ErrLine, math.MaxInt, math.MinInt} {
		r := octet.Read("")
		if r.Refuse(c); r.Code() != c || r.Done() != c {
			t.Error(c, r.Code(), r.Done())
		}
	}
	for b := range 256 {
		s := string([]byte{byte(b), 0, byte(b)})
		r := octet.Read(octet.Text(s) + s)
		if text, bytes := r.Text(3), r.Bytes(3); text != s || bytes != s || r.Done() != api.OK {
			t.Errorf("%q %q %q", s, text, bytes)
		}
	}
}

// R4, R7: readers of the same bytes tell the same, and nothing of one another.
func TestReadersAreTheirOwn(t *testing.T) {
	s := "\x02ab\x82\x2c\x00\x07"
	one, two := octet.Read(s), octet.Read(s)
	text, n, w := one.Text(9), one.Groups(999), one.Wide(2)
	one.Refuse(api.ErrShape)
	if two.Left() != len(s) || two.Code() != api.OK {
		t.Error(two.Left(), two.Code())
	}
	if two.Text(9) != text || two.Groups(999) != n || two.Wide(2) != w || two.Done() != api.OK {
		t.Error(text, n, w, two.Code())
	}
	if one.Code() != api.ErrShape || text != "ab" || n != 300 || w != 7 {
		t.Error(one.Code(), text, n, w)
	}
	first, _ := octet.Groups(300)
	if octet.Groups(1 << 40); first != "\x82\x2c" {
		t.Errorf("%q", first)
	}
}
