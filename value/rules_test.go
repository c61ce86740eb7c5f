package value_test

import (
	"math"
	"strings"
	"testing"

	"gong/api"
	"gong/ber"
	"gong/value"
)

// P1, R5: every call ends at all arguments; what is refused answers nothing.
func TestAllArguments(t *testing.T) {
	long := []string{strings.Repeat("1.", 1<<16), strings.Repeat("9", 1<<16), strings.Repeat("\x81", 1<<20), strings.Repeat("\x00", 1<<20), strings.Repeat("\xff", 1<<20)}
	all := append(texts(), long...)
	for _, kind := range append(notKinds()[:200], kinds...) {
		for _, s := range all {
			for _, n := range []int{0, 1, -1, 1 << 32, math.MinInt, math.MaxInt} {
				v := api.Value{Kind: kind, N: n, S: s}
				if plainCheck(v) {
					isShown(t, v, plainShow(v))
				} else {
					mayNotBe(t, v)
				}
			}
			v, e := value.Decode(ber.Part{Tag: kind, Body: s})
			if e != api.OK && (v != api.Value{} || e != api.ErrValue) || e == api.OK && (v.Kind != kind || !plainCheck(v)) {
				t.Errorf("Decode(%d, %.40q) = %d, %d, %.40q, %d", kind, s, v.Kind, v.N, v.S, e)
			}
		}
	}
	for _, n := range edges() {
		if v := value.Big(uint64(n)); v != (api.Value{Kind: api.VBig, N: n}) {
			t.Errorf("Big(%d) = %v", uint64(n), v)
		}
	}
}

// R1: a value that is wrong in several ways, and one that is so in the last, is
// refused alike: there is but one error.
func TestOneError(t *testing.T) {
	for _, kind := range append(notKinds(), kinds...) {
		mayNotBe(t, api.Value{Kind: kind, N: -1 << 40, S: strings.Repeat("o", 65536)})
		noBody(t, kind, strings.Repeat("\x80", 65536))
	}
}

// R2: what the chapter does not refuse may be: octets that are no text, an address
// of nobody, big numbers below 0, an opaque value that is no element.
func TestWhatIsNotRefused(t *testing.T) {
	for _, v := range []api.Value{
		{Kind: 4, S: "\xff\x00\x80"}, {Kind: 4, S: "\xed\xa0\x80"}, {Kind: 64, S: "\x00\x00\x00\x00"}, {Kind: 64, S: "\xff\xff\xff\xff"}, {Kind: 70, N: -1}, {Kind: 70, N: math.MinInt}, {Kind: 68, S: "\x1f\xff"}, {Kind: 68, S: strings.Repeat("\x30", 65535)}, {Kind: 6, S: "0.0"}, {Kind: 6, S: "2.4294967215"},
	} {
		hasBody(t, v, plainBody(v))
		isShown(t, v, plainShow(v))
	}
}

// R4, R7: what is handed in stays, and an answer is its own: it stays whatever is
// called later.
func TestAnswersStay(t *testing.T) {
	v := api.Value{Kind: api.VOid, S: "1.3.6.1"}
	p := ber.Part{Tag: api.VAddress, Body: "\x0a\x00\x00\x01"}
	for range 2 {
		code := value.Check(v)
		s, _ := value.Encode(v)
		address, _ := value.Decode(p)
		dotted, _ := value.Show(address)
		opaque, _ := value.Show(api.Value{Kind: api.VOpaque, S: "\x0a\xff"})
		number := value.Big(1 << 63)
		value.Check(api.Value{})
		value.Encode(api.Value{Kind: api.VOid, S: "2.999.3"})
		value.Decode(ber.Part{Tag: api.VAddress, Body: "abc"})
		value.Show(api.Value{Kind: api.VAddress, S: "abcd"})
		value.Show(api.Value{Kind: api.VOpaque, S: "abcd"})
		value.Big(7)
		if code != api.OK || s != "\x06\x03\x2b\x06\x01" || address != (api.Value{Kind: 64, S: "\x0a\x00\x00\x01"}) || dotted != "10.0.0.1" || opaque != "0aff" || number != (api.Value{Kind: 70, N: math.MinInt}) {
			t.Errorf("%d %q %v %q %q %v", code, s, address, dotted, opaque, number)
		}
	}
	if v != (api.Value{Kind: api.VOid, S: "1.3.6.1"}) || p != (ber.Part{Tag: api.VAddress, Body: "\x0a\x00\x00\x01"}) {
		t.Error(v, p)
	}
}

// R6: numbers are shown without a 0 ahead, and 0 is 0.
func TestNumbersAsText(t *testing.T) {
	for _, kind := range []int{2, 65, 66, 67, 70} {
		for _, n := range []int{0, 1, 9, 10, 100, 1000000000, 2147483647} {
			s, e := value.Show(api.Value{Kind: kind, N: n})
			if e != api.OK || s == "" || strings.Trim(s, "0123456789") != "" || strings.HasPrefix(s, "0") != (n == 0) || n == 0 && s != "0" {
				t.Errorf("%d, %d: %q, %d", kind, n, s, e)
			}
		}
	}
	isShown(t, api.Value{Kind: 64, S: "\x00\x01\x0a\x09"}, "0.1.10.9")
}
