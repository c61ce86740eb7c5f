package value_test

import (
	"fmt"
	"math"
	"strings"
	"testing"

	"gong/api"
	"gong/utf"
	"gong/value"
)

// plainShow is the chapter's words for what is shown of a value that may be.
func plainShow(v api.Value) string {
	switch v.Kind {
	case 2, 65, 66, 67:
		return fmt.Sprint(v.N)
	case 4:
		return utf.Shown(v.S)
	case 64:
		return fmt.Sprintf("%d.%d.%d.%d", v.S[0], v.S[1], v.S[2], v.S[3])
	case 68:
		return fmt.Sprintf("%x", v.S)
	case 70:
		return modulo(v.N).String()
	}
	return v.S
}

func isShown(t *testing.T, v api.Value, want string) {
	t.Helper()
	if s, e := value.Show(v); s != want || e != api.OK {
		t.Errorf("Show(%d, %d, %.40q) = %.40q, %d", v.Kind, v.N, v.S, s, e)
	}
}

// 7.2
func TestShow(t *testing.T) {
	for _, x := range []struct {
		v    api.Value
		want string
	}{
		{api.Value{Kind: 64, S: "\x7f\x00\x00\x01"}, "127.0.0.1"}, {api.Value{Kind: 64, S: "\xff\xff\xff\xff"}, "255.255.255.255"}, {api.Value{Kind: 64, S: "\x00\x00\x00\x00"}, "0.0.0.0"}, {api.Value{Kind: 64, S: "\x0a\x63\x64\xc8"}, "10.99.100.200"}, {api.Value{Kind: 64, S: "1234"}, "49.50.51.52"},
		{api.Value{Kind: 2}, "0"}, {api.Value{Kind: 2, N: 42}, "42"}, {api.Value{Kind: 2, N: -42}, "-42"}, {api.Value{Kind: 2, N: -2147483648}, "-2147483648"}, {api.Value{Kind: 2, N: 2147483647}, "2147483647"},
		{api.Value{Kind: 65, N: 4294967295}, "4294967295"}, {api.Value{Kind: 66, N: 1000}, "1000"}, {api.Value{Kind: 67, N: 300}, "300"}, {api.Value{Kind: 67}, "0"},
		{api.Value{Kind: 70}, "0"}, {api.Value{Kind: 70, N: math.MaxInt}, "9223372036854775807"}, {api.Value{Kind: 70, N: -1}, "18446744073709551615"}, {api.Value{Kind: 70, N: math.MinInt}, "9223372036854775808"}, {api.Value{Kind: 70, N: -300}, "18446744073709551316"},
		{api.Value{Kind: 4}, ""}, {api.Value{Kind: 4, S: "eth0"}, "eth0"}, {api.Value{Kind: 4, S: "a\x00\xff"}, `a\x00\xff`}, {api.Value{Kind: 4, S: "a\\b\n\xe2\x82\xac\xe2\x82"}, "a\\\\b\\x0a\xe2\x82\xac\\xe2\\x82"}, {api.Value{Kind: 4, S: "\x7f\x00\x00\x01"}, `\x7f\x00\x00\x01`},
		{api.Value{Kind: 68}, ""}, {api.Value{Kind: 68, S: "\x00\x0f\xf0\xff"}, "000ff0ff"}, {api.Value{Kind: 68, S: "ab"}, "6162"}, {api.Value{Kind: 68, S: "\x9a\xbc\xde"}, "9abcde"},
		{api.Value{Kind: 6, S: "1.3.6.1"}, "1.3.6.1"}, {api.Value{Kind: 6, S: "2.4294967215.0"}, "2.4294967215.0"}, {api.Value{Kind: 5}, ""},
	} {
		isShown(t, x.v, x.want)
	}
	for _, v := range values() {
		isShown(t, v, plainShow(v))
	}
	for b := range 256 {
		s := strings.Repeat(string([]byte{byte(b)}), 4)
		for _, kind := range []int{4, 64, 68} {
			v := api.Value{Kind: kind, S: s}
			isShown(t, v, plainShow(v))
		}
	}
}

// 7.2: what is shown may be told: it is UTF-8, and has no control.
func TestWhatIsShown(t *testing.T) {
	for _, v := range values() {
		s, _ := value.Show(v)
		l, e := utf.Chars(s)
		if e != api.OK {
			t.Errorf("Show(%d, %d, %.40q) = %.40q", v.Kind, v.N, v.S, s)
		}
		for _, c := range l {
			if c < 32 || c == 127 {
				t.Errorf("Show(%d, %d, %.40q) = %.40q", v.Kind, v.N, v.S, s)
			}
		}
	}
}
