package glob

// wordBits is how many bytes' bits stand in one word of a set.
const wordBits = 64

// set is bytes: those whose bit is 1.
type set [256 / wordBits]uint64

// add takes all bytes from first to last in.
func (x *set) add(first, last byte) {
	for c := int(first); c <= int(last); c++ {
		x[c/wordBits] |= 1 << (c % wordBits)
	}
}

// has tells whether c is in.
func (x *set) has(c byte) bool {
	return x[c/wordBits]>>(c%wordBits)&1 == 1
}

// others is all bytes that are not in x.
func (x set) others() set {
	for i := range x {
		x[i] = ^x[i]
	}
	return x
}
