package octet

import "gong/api"

// Reader reads bytes from their beginning on, till something is refused.
type Reader struct {
	bytes string
	at    int
	code  api.Code
}

// Read is a reader at the beginning of s.
func Read(s string) *Reader {
	return &Reader{bytes: s}
}

// Groups reads a number that stands as groups, and is at most most.
func (r *Reader) Groups(most int) int {
	n, long, c := first(r.bytes[r.at:], most)
	r.Refuse(c)
	if r.code != api.OK {
		return 0
	}
	r.at += long
	return n
}

// first is the number whose groups s begins with, and how many bytes they are.
// What is above most is refused as soon as it is so, whatever follows.
func first(s string, most int) (n, long int, c api.Code) {
	for i := range mostGroups {
		if i == len(s) {
			return 0, 0, api.ErrEnd
		}
		if i == 0 && s[i] == more {
			return 0, 0, api.ErrForm
		}
		n = n*more + int(s[i]%more)
		if n > most {
			return 0, 0, api.ErrLong
		}
		if s[i] < more {
			return n, i + 1, api.OK
		}
	}
	return 0, 0, api.ErrForm
}

// Wide reads a wide number of w bytes.
func (r *Reader) Wide(w int) int {
	if w < 1 || w > mostWide {
		r.Refuse(api.ErrRange)
		return 0
	}
	at := r.at
	n := 0
	for _, b := range []byte(r.Bytes(w)) {
		n = n<<8 | int(b)
	}
	if n < 0 { // eight bytes, the highest bit set: above the greatest int
		r.at = at
		r.Refuse(api.ErrRange)
		return 0
	}
	return n
}

// Text reads a long text of at most most bytes.
func (r *Reader) Text(most int) string {
	return r.sized(r.Groups, most)
}

// Bytes reads n bytes.
func (r *Reader) Bytes(n int) string {
	return r.sized(r.told, n)
}

// told is a length that stands nowhere: who calls has it.
func (r *Reader) told(n int) int {
	if n < 0 {
		r.Refuse(api.ErrRange)
		return 0
	}
	return n
}

// sized reads as many bytes as length tells of n. If they are refused, the
// length is not read, either.
func (r *Reader) sized(length func(n int) int, n int) string {
	at := r.at
	long := length(n)
	if long > r.Left() {
		r.Refuse(api.ErrEnd)
	}
	if r.code != api.OK {
		r.at = at
		return ""
	}
	s := r.bytes[r.at : r.at+long]
	r.at += long
	return s
}

// Left is how many bytes are not read.
func (r *Reader) Left() int {
	return len(r.bytes) - r.at
}

// Code is the first thing that was refused.
func (r *Reader) Code() api.Code {
	return r.code
}

// Refuse tells the reader what is wrong, if nothing was before.
func (r *Reader) Refuse(c api.Code) {
	if r.code == api.OK {
		r.code = c
	}
}

// Done is the reader's code; bytes that are left are wrong, too.
func (r *Reader) Done() api.Code {
	if r.code == api.OK && r.Left() > 0 {
		return api.ErrForm
	}
	return r.code
}
