package octet_test

import (
	"math"
	"strings"
	"testing"

	"gong/api"
	"gong/octet"
)

// readers are the calls that read, each of a number that says what may be.
func readers() []func(r *octet.Reader, n int) (int, string) {
	return []func(r *octet.Reader, n int) (int, string){
		func(r *octet.Reader, n int) (int, string) { return r.Groups(n), "" },
		func(r *octet.Reader, n int) (int, string) { return r.Wide(n), "" },
		func(r *octet.Reader, n int) (int, string) { return 0, r.Text(n) },
		func(r *octet.Reader, n int) (int, string) { return 0, r.Bytes(n) },
	}
}

// odd are numbers at and beyond the edges of what may be.
func odd() []int {
	return []int{math.MinInt, -1, 0, 1, 2, 3, 7, 8, 9, 127, 128, math.MaxInt - 1, math.MaxInt}
}

// 1.2
func TestReadGroups(t *testing.T) {
	ff := strings.Repeat("\xff", 8)
	for _, x := range []struct {
		s    string
		most int
		n    int
		code api.Code
		left int
	}{
		{"\x00", 0, 0, api.OK, 0}, {"\x05!", 5, 5, api.OK, 1}, {"\x82\x2c", 300, 300, api.OK, 0},
		{"\x81\x00\x80", math.MaxInt, 128, api.OK, 1}, {ff + "\x7f", math.MaxInt, math.MaxInt, api.OK, 0},
		{"", 9, 0, api.ErrEnd, 0}, {"", -1, 0, api.ErrEnd, 0}, {"\x81", 999, 0, api.ErrEnd, 1}, {ff, math.MaxInt, 0, api.ErrEnd, 8},
		{"\x80\x01", 999, 0, api.ErrForm, 2}, {"\x80", 999, 0, api.ErrForm, 1}, {"\x80", -1, 0, api.ErrForm, 1},
		{ff + "\xff", math.MaxInt, 0, api.ErrForm, 9}, {ff + "\xff\x01", math.MaxInt, 0, api.ErrForm, 10},
		{ff + "\xff\x01", math.MaxInt - 1, 0, api.ErrLong, 10}, {ff + "\xff\x01", 5, 0, api.ErrLong, 10},
		{ff + "\x7f", math.MaxInt - 1, 0, api.ErrLong, 9}, {"\x82\x2c", 299, 0, api.ErrLong, 2},
		{"\x00", -1, 0, api.ErrLong, 1}, {"\x06", 5, 0, api.ErrLong, 1}, {"\x01", math.MinInt, 0, api.ErrLong, 1},
		{"\x86", 5, 0, api.ErrLong, 1}, {"\x85", 5, 0, api.ErrEnd, 1}, {"\x81\x80", 127, 0, api.ErrLong, 2}, // what follows can't make it less
	} {
		r := octet.Read(x.s)
		if n := r.Groups(x.most); n != x.n || r.Code() != x.code || r.Left() != x.left {
			t.Errorf("%q, at most %d: %d, code %d, left %d", x.s, x.most, n, r.Code(), r.Left())
		}
	}
}

// 1.2
func TestReadWide(t *testing.T) {
	for _, x := range []struct {
		s    string
		w    int
		n    int
		code api.Code
		left int
	}{
		{"\x00\x01\x2c!", 3, 300, api.OK, 1}, {"\xff", 1, 255, api.OK, 0}, {"\x00\x00", 2, 0, api.OK, 0},
		{"\x7f\xff\xff\xff\xff\xff\xff\xff", 8, math.MaxInt, api.OK, 0},
		{"\xff\xff\xff\xff\xff\xff\xff!", 7, 1<<56 - 1, api.OK, 1},
		{"ab", 0, 0, api.ErrRange, 2}, {"ab", 9, 0, api.ErrRange, 2}, {"ab", -1, 0, api.ErrRange, 2}, {"", math.MaxInt, 0, api.ErrRange, 0},
		{"ab", 3, 0, api.ErrEnd, 2}, {"", 1, 0, api.ErrEnd, 0}, {"\xff\xff\xff\xff\xff\xff\xff", 8, 0, api.ErrEnd, 7},
		{"\x80\x00\x00\x00\x00\x00\x00\x00!", 8, 0, api.ErrRange, 9}, {"\xff\xff\xff\xff\xff\xff\xff\xff", 8, 0, api.ErrRange, 8},
	} {
		r := octet.Read(x.s)
		if n := r.Wide(x.w); n != x.n || r.Code() != x.code || r.Left() != x.left {
			t.Errorf("%q, wide %d: %d, code %d, left %d", x.s, x.w, n, r.Code(), r.Left())
		}
	}
}

// 1.2
func TestReadBytes(t *testing.T) {
	for _, x := range []struct {
		s    string
		n    int
		want string
		code api.Code
		left int
	}{
		{"abc", 2, "ab", api.OK, 1}, {"abc", 3, "abc", api.OK, 0}, {"abc", 0, "", api.OK, 3}, {"", 0, "", api.OK, 0},
		{"abc", 4, "", api.ErrEnd, 3}, {"", 1, "", api.ErrEnd, 0}, {"abc", math.MaxInt, "", api.ErrEnd, 3},
		{"abc", -1, "", api.ErrRange, 3}, {"", math.MinInt, "", api.ErrRange, 0},
	} {
		r := octet.Read(x.s)
		if s := r.Bytes(x.n); s != x.want || r.Code() != x.code || r.Left() != x.left {
			t.Errorf("%q, %d bytes: %q, code %d, left %d", x.s, x.n, s, r.Code(), r.Left())
		}
	}
}

// 1.2
func TestReadText(t *testing.T) {
	long := strings.Repeat("x", 300)
	for _, x := range []struct {
		s    string
		most int
		want string
		code api.Code
		left int
	}{
		{"\x02ab!", 2, "ab", api.OK, 1}, {"\x00!", 0, "", api.OK, 1}, {"\x82\x2c" + long, 300, long, api.OK, 0},
		{"\x02ab", 1, "", api.ErrLong, 3}, {"\x00", -1, "", api.ErrLong, 1}, {"\x82\x2c", 299, "", api.ErrLong, 2},
		{"\x03ab", 9, "", api.ErrEnd, 3}, {"", 9, "", api.ErrEnd, 0}, {"\x01", 9, "", api.ErrEnd, 1}, {"\x82", 300, "", api.ErrEnd, 1},
		{"\xff\xff\xff\xff\xff\xff\xff\xff\x7fab", math.MaxInt, "", api.ErrEnd, 11},
		{"\x80ab", 9, "", api.ErrForm, 3},
	} {
		r := octet.Read(x.s)
		if s := r.Text(x.most); s != x.want || r.Code() != x.code || r.Left() != x.left {
			t.Errorf("%q, at most %d: %q, code %d, left %d", x.s, x.most, s, r.Code(), r.Left())
		}
	}
}

// 1.2: what one call reads, the next one goes on behind.
func TestReadOn(t *testing.T) {
	r := octet.Read("\x82\x2c\x00\x05\x02abcd\x00")
	if n := r.Groups(300); n != 300 || r.Left() != 8 {
		t.Error(n, r.Left())
	}
	if n := r.Wide(2); n != 5 || r.Left() != 6 {
		t.Error(n, r.Left())
	}
	if s := r.Text(2); s != "ab" || r.Left() != 3 {
		t.Error(s, r.Left())
	}
	if s := r.Bytes(2); s != "cd" || r.Left() != 1 || r.Done() != api.ErrForm {
		t.Error(s, r.Left(), r.Done())
	}
	if s := r.Text(0); s != "" || r.Left() != 0 || r.Code() != api.OK || r.Done() != api.OK {
		t.Error(s, r.Left(), r.Code(), r.Done())
	}
}

// 1.3
func TestRefuse(t *testing.T) {
	r := octet.Read("ab")
	r.Refuse(api.OK)
	if r.Code() != api.OK || r.Left() != 2 {
		t.Error(r.Code(), r.Left())
	}
	if s := r.Bytes(1); s != "a" {
		t.Error(s)
	}
	r.Refuse(api.ErrTicket)
	r.Refuse(api.ErrLong)
	r.Refuse(api.OK)
	if r.Code() != api.ErrTicket || r.Done() != api.ErrTicket || r.Left() != 1 {
		t.Error(r.Code(), r.Done(), r.Left())
	}
}

// 1.3
func TestDone(t *testing.T) {
	r := octet.Read("a")
	if r.Done() != api.ErrForm || r.Code() != api.OK || r.Left() != 1 {
		t.Error(r.Done(), r.Code(), r.Left())
	}
	if s := r.Bytes(1); s != "a" || r.Done() != api.OK || r.Code() != api.OK {
		t.Error(s, r.Done(), r.Code())
	}
	if r.Bytes(1); r.Done() != api.ErrEnd || r.Code() != api.ErrEnd {
		t.Error(r.Done(), r.Code())
	}
	r = octet.Read("a")
	if r.Bytes(2); r.Done() != api.ErrEnd {
		t.Error(r.Done())
	}
}

// The chapter's words, and 1.3: behind something that is refused nothing is
// read, though it could be (these bytes are a number, and a long text).
func TestNothingIsReadBehindRefused(t *testing.T) {
	for _, refused := range readers() {
		for _, read := range readers() {
			r := octet.Read("\x01a\x01b")
			refused(r, math.MinInt)
			first := r.Code()
			for _, n := range odd() {
				if k, s := read(r, n); k != 0 || s != "" || r.Left() != 4 || r.Code() != first || first == api.OK {
					t.Error(n, k, s, r.Left(), r.Code(), first)
				}
			}
		}
	}
}
