package ber

import (
	"math"

	"gong/api"
	"gong/octet"
)

// The most bytes that a number's body may have, and an unsigned one's: one more,
// so that the highest bit of 64 is not taken for a sign.
const (
	mostNumber   = 8
	mostUnsigned = 9
)

// signBit is set in the first byte of a number below 0.
const signBit = 0x80

// Number is the number whose body that is.
func Number(body string) (int, api.Code) {
	if !isShort(body) || len(body) > mostNumber {
		return 0, api.ErrBer
	}
	n := 0
	if body[0]&signBit != 0 {
		n = -1
	}
	for _, b := range []byte(body) {
		n = n<<8 | int(b)
	}
	return n, api.OK
}

// Unsigned is the unsigned number whose body that is.
func Unsigned(body string) (uint64, api.Code) {
	if !isShort(body) || len(body) > mostUnsigned || body[0]&signBit != 0 {
		return 0, api.ErrBer
	}
	if len(body) == mostUnsigned && body[0] != 0 {
		return 0, api.ErrBer
	}
	n := uint64(0)
	for _, b := range []byte(body) {
		n = n<<8 | uint64(b)
	}
	return n, api.OK
}

// isShort tells whether body has bytes, and none ahead that it could do without.
func isShort(body string) bool {
	return len(body) == 1 || len(body) > 1 && !isSpare(body[0], body[1])
}

// isSpare tells whether first says nothing but the sign that second has, too.
func isSpare(first, second byte) bool {
	if second&signBit != 0 {
		return first == 0xFF
	}
	return first == 0
}

// PutNumber is the body of n.
func PutNumber(n int) string {
	return cut(eight(uint64(n)))
}

// PutUnsigned is the body of n, as an unsigned number.
func PutUnsigned(n uint64) string {
	return cut("\x00" + eight(n))
}

// eight is n as eight bytes, by halves: not every n is an int.
func eight(n uint64) string {
	high, _ := octet.Wide(int(n>>32), 4)
	low, _ := octet.Wide(int(n&math.MaxUint32), 4)
	return high + low
}

// cut is bytes without those ahead that a number's body can do without.
func cut(bytes string) string {
	for !isShort(bytes) {
		bytes = bytes[1:]
	}
	return bytes
}
