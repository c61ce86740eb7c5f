package crc_test

import (
	"math"
	"testing"

	"gong/api"
	"gong/crc"
)

// numbers may be sums, lengths, or neither.
func numbers() []int {
	return append(append(sums(), noSums()...), 1<<40-1, 1<<40+1, math.MaxInt-1)
}

func isSum(n int) bool { return n >= 0 && n <= mostSum }

// P1, R5: every call ends at all arguments; what is refused answers nothing.
func TestAllArguments(t *testing.T) {
	for _, a := range numbers() {
		n, c := crc.More(a, "ab")
		if isSum(a) != (c == api.OK) || !isSum(n) || c != api.OK && n != 0 {
			t.Errorf("More(%d) = %d, %d", a, n, c)
		}
		for _, b := range numbers() {
			for _, long := range numbers() {
				n, c := crc.Join(a, b, long)
				right := isSum(a) && isSum(b) && long >= 0 && long <= 1<<40
				if right != (c == api.OK) || !right && c != api.ErrRange || !isSum(n) || c != api.OK && n != 0 {
					t.Fatalf("Join(%d, %d, %d) = %d, %d", a, b, long, n, c)
				}
			}
		}
	}
	for _, s := range texts() {
		if got, ok := crc.Open(s); !ok && got != "" {
			t.Errorf("Open of %d bytes: %q", len(s), got)
		}
	}
}

// R2: what the chapter does not refuse may be: a sum that no bytes of that
// length have, too. It goes into the answer as any other does.
func TestWhatIsNotRefused(t *testing.T) {
	for _, b := range sums() {
		if n, c := crc.Join(0xCBF43926, b, 0); n != 0xCBF43926^b || c != api.OK {
			t.Errorf("%#x: %#x, %d", b, n, c)
		}
	}
	for b := range 256 {
		s := string([]byte{byte(b), 0, byte(b)})
		if got, ok := crc.Open(crc.Tag(s)); got != s || !ok {
			t.Errorf("%q: %q, %t", s, got, ok)
		}
	}
}

// R4, R7: a call leaves what it was given, and nothing of it is kept for the next.
func TestCallsAreTheirOwn(t *testing.T) {
	s := "123456789"
	tagged := crc.Tag(s)
	for range 2 {
		sum := crc.Sum(s)
		more, _ := crc.More(sum, s)
		joined, _ := crc.Join(sum, sum, len(s))
		if crc.More(-1, s); sum != 0xCBF43926 || more != plain(s+s) || joined != more {
			t.Errorf("%#x %#x %#x", sum, more, joined)
		}
		if open, ok := crc.Open(tagged); open != s || !ok || crc.Tag(s) != tagged {
			t.Errorf("%q %t", open, ok)
		}
		crc.Open("no")
	}
	if s != "123456789" || tagged != "123456789\x26\x39\xf4\xcb" {
		t.Errorf("%q %q", s, tagged)
	}
}
