package value_test

import (
	"math"
	"math/big"
	"slices"
	"strings"
	"testing"

	"gong/api"
	"gong/ber"
	"gong/oid"
	"gong/value"
)

// kinds are all that a value may be of.
var kinds = []int{2, 4, 5, 6, 64, 65, 66, 67, 68, 70}

// plainCheck is the chapter's words for what may be.
func plainCheck(v api.Value) bool {
	_, e := oid.Arcs(v.S)
	number, text := true, true // has it what its kind has, or else 0, nothing?
	switch v.Kind {
	case 2:
		number, text = -2147483648 <= v.N && v.N <= 2147483647, v.S == ""
	case 4, 68:
		number, text = v.N == 0, len(v.S) < 65536
	case 5:
		number, text = v.N == 0, v.S == ""
	case 6:
		number, text = v.N == 0, e == api.OK
	case 64:
		number, text = v.N == 0, len(v.S) == 4
	case 65, 66, 67:
		number, text = 0 <= v.N && v.N <= 4294967295, v.S == ""
	case 70:
		text = v.S == ""
	default:
		return false
	}
	return number && text
}

// modulo is n modulo 2^64, from 0 on.
func modulo(n int) *big.Int {
	return new(big.Int).And(big.NewInt(int64(n)), big.NewInt(0).SetUint64(math.MaxUint64))
}

// plainNumber is the chapter's words for a number's body: the fewest bytes that have it in two's complement.
func plainNumber(n *big.Int) string {
	long := uint(1)
	half := big.NewInt(128)
	for n.Cmp(half) >= 0 || new(big.Int).Add(n, half).Sign() < 0 {
		long++
		half.Lsh(half, 8)
	}
	turned := new(big.Int).Add(n, new(big.Int).Lsh(big.NewInt(1), 8*long))
	bytes := turned.FillBytes(make([]byte, long+1))
	return string(bytes[1:])
}

// plainBody is the chapter's words for the body of a value that may be.
func plainBody(v api.Value) string {
	switch v.Kind {
	case 2, 65, 66, 67:
		return plainNumber(big.NewInt(int64(v.N)))
	case 70:
		return plainNumber(modulo(v.N))
	case 6:
		body, _ := oid.Encode(v.S)
		return body
	case 5:
		return ""
	}
	return v.S
}

// element is that of a tag and a body, its length in as few bytes as may be.
func element(tag int, body string) string {
	n := len(body)
	length := []byte{byte(n)}
	switch {
	case n >= 65536:
		length = []byte{131, byte(n >> 16), byte(n >> 8), byte(n)}
	case n >= 256:
		length = []byte{130, byte(n >> 8), byte(n)}
	case n >= 128:
		length = []byte{129, byte(n)}
	}
	return string([]byte{byte(tag)}) + string(length) + body
}

// edges are numbers at and beside each edge that a kind has, and those far off.
func edges() []int {
	all := []int{5, 300, -300, 1000000, 3000000000, -3000000000}
	for bits := range 63 {
		for d := -2; d <= 2; d++ {
			all = append(all, 1<<bits+d, -1<<bits+d)
		}
	}
	return append(all, math.MaxInt, math.MaxInt-1, math.MinInt, math.MinInt+1, math.MaxInt32-1, math.MaxUint32-1)
}

// texts are bytes that some kind may have, and that it may not.
func texts() []string {
	all := []string{
		"", "a", "ab", "abc", "abcd", "abcde", "\x00", "\x7f\x00\x00\x01", "\xff\xff\xff\xff", "\x00\x00\x00\x00", "127.0.0.1", "\x01\xff\x80\x00\x0a\\", "\xe2\x82\xac", "\xef\xbb\xbf!",
		"1.3", "1.3.6.1", "0.0", "0.39", "2.999.3", "2.4294967215.4294967295", "1.3.6.1.4.1.8072.3.2.10", "1", "1.", "1.40", "3.1", "1.03", "1.3.4294967296", "2.4294967216", "1.3.x", " 1.3",
		strings.Repeat("1.", 127) + "1", strings.Repeat("1.", 128) + "1", "2.4294967215" + strings.Repeat(".4294967295", 126),
		"\x2b\x06\x01", "\x2b\x86", "\x80\x01",
	}
	for _, long := range []int{3, 4, 5, 127, 128, 255, 256, 65534, 65535, 65536, 65537, 1 << 17} {
		all = append(all, strings.Repeat("\x80", long), strings.Repeat("o", long))
	}
	return all
}

// notKinds are numbers that are no kind's, though some have a kind's lowest byte.
func notKinds() []int {
	all := []int{math.MinInt, math.MinInt + 2, -1, -2, -4, -64, math.MaxInt, 1 << 32, 1<<32 + 2, 1 << 62}
	for _, k := range kinds {
		all = append(all, k+256, k-256, k+65536, k+128, k+32, k-1<<32, k+1<<32)
	}
	for k := -3; k < 600; k++ {
		all = append(all, k)
	}
	return slices.DeleteFunc(all, func(k int) bool { return slices.Contains(kinds, k) })
}

// mayNotBe holds v to being refused by all calls.
func mayNotBe(t *testing.T, v api.Value) {
	t.Helper()
	if e := value.Check(v); e != api.ErrValue {
		t.Errorf("Check(%d, %d, %.40q) = %d", v.Kind, v.N, v.S, e)
	}
	if s, e := value.Encode(v); s != "" || e != api.ErrValue {
		t.Errorf("Encode(%d, %d, %.40q) = %.40q, %d", v.Kind, v.N, v.S, s, e)
	}
	if s, e := value.Show(v); s != "" || e != api.ErrValue {
		t.Errorf("Show(%d, %d, %.40q) = %.40q, %d", v.Kind, v.N, v.S, s, e)
	}
}

// hasBody holds v, which may be, to that body, there and back.
func hasBody(t *testing.T, v api.Value, body string) {
	t.Helper()
	if e := value.Check(v); e != api.OK {
		t.Errorf("Check(%d, %d, %.40q) = %d", v.Kind, v.N, v.S, e)
	}
	if s, e := value.Encode(v); s != element(v.Kind, body) || e != api.OK {
		t.Errorf("Encode(%d, %d, %.40q) = %.40q, %d", v.Kind, v.N, v.S, s, e)
	}
	if back, e := value.Decode(ber.Part{Tag: v.Kind, Body: body}); back != v || e != api.OK {
		t.Errorf("Decode(%d, %.40q) = %d, %d, %.40q, %d", v.Kind, body, back.Kind, back.N, back.S, e)
	}
}

// noBody holds a part to being none's element.
func noBody(t *testing.T, tag int, body string) {
	t.Helper()
	if v, e := value.Decode(ber.Part{Tag: tag, Body: body}); v != (api.Value{}) || e != api.ErrValue {
		t.Errorf("Decode(%d, %.40q) = %d, %d, %.40q, %d", tag, body, v.Kind, v.N, v.S, e)
	}
}

// known are values, and the bodies that they are known to have.
var known = []struct {
	v    api.Value
	body string
}{
	{api.Value{Kind: 67, N: 300}, "\x01\x2c"}, {api.Value{Kind: 64, S: "\x7f\x00\x00\x01"}, "\x7f\x00\x00\x01"},
	{api.Value{Kind: 2}, "\x00"}, {api.Value{Kind: 2, N: 5}, "\x05"}, {api.Value{Kind: 2, N: -1}, "\xff"}, {api.Value{Kind: 2, N: 127}, "\x7f"}, {api.Value{Kind: 2, N: 128}, "\x00\x80"}, {api.Value{Kind: 2, N: -128}, "\x80"}, {api.Value{Kind: 2, N: -129}, "\xff\x7f"},
	{api.Value{Kind: 2, N: 2147483647}, "\x7f\xff\xff\xff"}, {api.Value{Kind: 2, N: -2147483648}, "\x80\x00\x00\x00"},
	{api.Value{Kind: 4}, ""}, {api.Value{Kind: 4, S: "a\x00\xff"}, "a\x00\xff"}, {api.Value{Kind: 68}, ""}, {api.Value{Kind: 68, S: "\x9f\x78\x04"}, "\x9f\x78\x04"},
	{api.Value{Kind: 5}, ""}, {api.Value{Kind: 6, S: "1.3.6.1"}, "\x2b\x06\x01"}, {api.Value{Kind: 6, S: "0.0"}, "\x00"}, {api.Value{Kind: 6, S: "2.999.3"}, "\x88\x37\x03"}, {api.Value{Kind: 6, S: "1.3.4294967295"}, "\x2b\x8f\xff\xff\xff\x7f"},
	{api.Value{Kind: 64, S: "\x00\x00\x00\x00"}, "\x00\x00\x00\x00"}, {api.Value{Kind: 64, S: "\xff\xff\xff\xff"}, "\xff\xff\xff\xff"}, {api.Value{Kind: 64, S: "abcd"}, "abcd"},
	{api.Value{Kind: 65}, "\x00"}, {api.Value{Kind: 65, N: 200}, "\x00\xc8"}, {api.Value{Kind: 65, N: 4294967295}, "\x00\xff\xff\xff\xff"}, {api.Value{Kind: 66, N: 2147483648}, "\x00\x80\x00\x00\x00"}, {api.Value{Kind: 66, N: 4294967295}, "\x00\xff\xff\xff\xff"}, {api.Value{Kind: 67, N: 4294967295}, "\x00\xff\xff\xff\xff"},
	{api.Value{Kind: 70}, "\x00"}, {api.Value{Kind: 70, N: 4294967296}, "\x01\x00\x00\x00\x00"}, {api.Value{Kind: 70, N: math.MaxInt}, "\x7f\xff\xff\xff\xff\xff\xff\xff"}, {api.Value{Kind: 70, N: -1}, "\x00\xff\xff\xff\xff\xff\xff\xff\xff"}, {api.Value{Kind: 70, N: math.MinInt}, "\x00\x80\x00\x00\x00\x00\x00\x00\x00"}, {api.Value{Kind: 70, N: -256}, "\x00\xff\xff\xff\xff\xff\xff\xff\x00"},
}

// 7.1
func TestKnown(t *testing.T) {
	for _, x := range known {
		hasBody(t, x.v, x.body)
	}
	if s, e := value.Encode(api.Value{Kind: api.VTicks, N: 300}); s != "\x43\x02\x01\x2c" || e != api.OK {
		t.Errorf("%q, %d", s, e)
	}
	if s, e := value.Encode(api.Value{Kind: api.VNull}); s != "\x05\x00" || e != api.OK {
		t.Errorf("%q, %d", s, e)
	}
	for _, long := range []int{127, 128, 255, 256, 65535} {
		for _, kind := range []int{4, 68} {
			s := strings.Repeat("\x80", long)
			hasBody(t, api.Value{Kind: kind, S: s}, s)
		}
	}
}

// 7.1: each kind, with each number and text, at their edges.
func TestEachValue(t *testing.T) {
	for _, kind := range kinds {
		for _, n := range edges() {
			holds(t, api.Value{Kind: kind, N: n})
			holds(t, api.Value{Kind: kind, N: n, S: "1.3"})
			holds(t, api.Value{Kind: kind, N: n, S: "abcd"})
		}
		for _, s := range texts() {
			for _, n := range []int{0, 1, -1, math.MinInt} {
				holds(t, api.Value{Kind: kind, N: n, S: s})
			}
		}
	}
}

// holds holds v to the chapter's words.
func holds(t *testing.T, v api.Value) {
	t.Helper()
	if plainCheck(v) {
		hasBody(t, v, plainBody(v))
	} else {
		mayNotBe(t, v)
	}
}

// 7.1: what no kind may have.
func TestWrongValues(t *testing.T) {
	long := strings.Repeat("o", 65536)
	for _, v := range []api.Value{
		{}, {Kind: 1}, {Kind: 3}, {Kind: 48}, {Kind: 69}, {Kind: 71}, {Kind: -2, N: 5}, {Kind: 258, N: 5},
		{Kind: 2, N: 2147483648}, {Kind: 2, N: -2147483649}, {Kind: 2, S: "a"}, {Kind: 2, N: 5, S: "\x05"},
		{Kind: 4, S: long}, {Kind: 68, S: long}, {Kind: 4, N: 1}, {Kind: 4, N: 1, S: "a"}, {Kind: 68, N: -1, S: "a"},
		{Kind: 5, N: 1}, {Kind: 5, S: "a"}, {Kind: 5, S: "\x00"},
		{Kind: 6}, {Kind: 6, S: "1"}, {Kind: 6, S: "1.40"}, {Kind: 6, S: "1.03"}, {Kind: 6, S: "\x2b\x06"}, {Kind: 6, S: "1.3", N: 1},
		{Kind: 64}, {Kind: 64, S: "abc"}, {Kind: 64, S: "abcde"}, {Kind: 64, S: "abcd", N: 1}, {Kind: 64, S: "127.0.0.1"}, {Kind: 64, N: 0x7f000001},
		{Kind: 65, N: -1}, {Kind: 66, N: -1}, {Kind: 67, N: -1}, {Kind: 65, N: 4294967296}, {Kind: 66, N: 4294967296}, {Kind: 67, N: 4294967296}, {Kind: 65, S: "a"}, {Kind: 66, N: 1, S: "a"}, {Kind: 67, S: "\x00"},
		{Kind: 70, S: "a"}, {Kind: 70, N: -1, S: "a"},
	} {
		mayNotBe(t, v)
	}
	for _, kind := range notKinds() {
		for _, v := range []api.Value{{Kind: kind}, {Kind: kind, N: 5}, {Kind: kind, S: "abcd"}, {Kind: kind, S: "1.3"}} {
			mayNotBe(t, v)
		}
	}
}

// 7.1: parts that are no value's element.
func TestWrongParts(t *testing.T) {
	for _, x := range []struct {
		tags   []int
		bodies []string
	}{
		{[]int{2}, []string{"", "\x00\x05", "\xff\x80", "\x00\x00", "\xff\xff", "\x00\x80\x00\x00\x00", "\xff\x7f\xff\xff\xff", "\x01\x00\x00\x00\x00", "\x7f\xff\xff\xff\xff\xff\xff\xff", "\x80\x00\x00\x00\x00\x00\x00\x00", "123456789", "\x00\xff\xff\xff\xff"}},
		{[]int{65, 66, 67}, []string{"", "\x80", "\xff", "\x00\x05", "\x00\x00", "\xff\x7f", "\x80\x00\x00\x00", "\xff\xff\xff\xff", "\x01\x00\x00\x00\x00", "\x7f\xff\xff\xff\xff\xff\xff\xff", "\x00\x80\x00\x00\x00\x00\x00\x00\x00", "\x00\xff\xff\xff\xff\xff\xff\xff\xff", "\x00\x80\x00\x00\x00\x00\x00\x00\x05", "\x01\x00\x00\x00\x00\x00\x00\x00\x00"}},
		{[]int{70}, []string{"", "\x80", "\xff", "\x00\x05", "\x00\x00", "\xff\x7f", "\xff\xff\xff\xff\xff\xff\xff\xff", "\x01\x00\x00\x00\x00\x00\x00\x00\x00", "\x00\x7f\xff\xff\xff\xff\xff\xff\xff", "\x00\x80\x00\x00\x00\x00\x00\x00\x00\x00"}},
		{[]int{5}, []string{"\x00", "a", "\x05\x00", "\xff"}},
		{[]int{6}, []string{"", "\x80\x01", "\x2b\x86", "\x2b\x80\x06", "\x2b\x90\x80\x80\x80\x00", "\x90\x80\x80\x80\x00", "\x2b" + strings.Repeat("\x01", 127)}},
		{[]int{64}, []string{"", "a", "abc", "abcde", "\x7f\x00\x00", "\x7f\x00\x00\x01\x00", "127.0.0.1", strings.Repeat("\x00", 16)}},
		{[]int{4, 68}, []string{strings.Repeat("o", 65536), strings.Repeat("\x00", 65537), strings.Repeat("o", 1<<17)}},
	} {
		for _, tag := range x.tags {
			for _, body := range x.bodies {
				noBody(t, tag, body)
			}
		}
	}
	for _, tag := range notKinds() {
		for _, body := range []string{"", "\x00", "\x05", "\x2b\x06", "abcd", "\x05\x00", "\x02\x01\x05"} {
			noBody(t, tag, body)
		}
	}
}
