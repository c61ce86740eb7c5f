package crc

import "gong/api"

// mostLong is how many bytes may be joined behind others.
const mostLong = 1 << 40

// Here a number's 32 bits are the places of a polynomial over 0 and 1, the
// highest bit that of x to the 0. wrapped is x to the 32, which has no place
// of its own, as the others tell it.
const (
	one     uint32 = 1 << 31
	eight   uint32 = 1 << 23 // x to the 8: a byte
	wrapped uint32 = 0xEDB88320
)

// Join is the sum of bytes whose own sum is a, and of long bytes behind them
// whose own sum is b. What a has in it moves by those bytes, whatever they are;
// that each sum began with all bits set, and was turned, cancels out.
func Join(a, b, long int) (int, api.Code) {
	if !isSum(a) || !isSum(b) || long < 0 || long > mostLong {
		return 0, api.ErrRange
	}
	return int(times(uint32(a), power(eight, long)) ^ uint32(b)), api.OK
}

// power is a, taken n times: by squares, for n may be far too many for a step each.
func power(a uint32, n int) uint32 {
	product := one
	for ; n > 0; n /= 2 {
		if n%2 == 1 {
			product = times(product, a)
		}
		a = times(a, a)
	}
	return product
}

func times(a, b uint32) uint32 {
	product := uint32(0)
	for ; a != 0; a <<= 1 {
		if a >= one {
			product ^= b
		}
		b = b>>1 ^ b%2*wrapped
	}
	return product
}
