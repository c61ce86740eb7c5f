package stamp

// reader takes the parts of a stamp from its text, one behind the other. Once
// something is wrong there, every part is the least that it may be: who reads
// looks but once, at the end.
type reader struct {
	rest  string
	wrong bool
}

// date reads a date: how many days there are from the first year on, ahead of it.
func (r *reader) date() int {
	year := r.number(4, 0, 9999)
	r.mark('-')
	month := r.number(2, 1, 12)
	r.mark('-')
	dayInMonth := r.number(2, 1, lastOf(year, month))
	return yearsAhead(year) + daysAhead(year, month) + dayInMonth - 1
}

// minutes reads hours and minutes, as minutes.
func (r *reader) minutes() int {
	hours := r.number(2, 0, 23)
	r.mark(':')
	return hours*60 + r.number(2, 0, 59)
}

// fraction reads what may be behind the seconds, as nanoseconds.
func (r *reader) fraction() int {
	if !r.took('.') {
		return 0
	}
	nanos, place := 0, second
	for place > 1 && startsWithDigit(r.rest) {
		place /= 10
		nanos += r.number(1, 0, 9) * place
	}
	if place == second {
		r.wrong = true
	}
	return nanos
}

// zone reads by how many minutes the clock goes ahead.
func (r *reader) zone() int {
	switch {
	case r.took('Z'):
		return 0
	case r.took('+'):
		return r.minutes()
	}
	r.mark('-')
	return -r.minutes()
}

// number reads so many digits, of a number from least to most.
func (r *reader) number(long, least, most int) int {
	n := 0
	for range long {
		if !startsWithDigit(r.rest) {
			r.wrong = true
			return least
		}
		n = 10*n + int(r.rest[0]-'0')
		r.rest = r.rest[1:]
	}
	if n < least || n > most {
		r.wrong = true
		return least
	}
	return n
}

func startsWithDigit(s string) bool {
	return s != "" && isDigit(s[0])
}

func isDigit(c byte) bool {
	return c >= '0' && c <= '9'
}

// mark reads c, which must stand there.
func (r *reader) mark(c byte) {
	if !r.took(c) {
		r.wrong = true
	}
}

// took reads c, if it stands there.
func (r *reader) took(c byte) bool {
	if r.rest == "" || r.rest[0] != c {
		return false
	}
	r.rest = r.rest[1:]
	return true
}

// done tells whether all was right, and nothing is left.
func (r *reader) done() bool {
	return !r.wrong && r.rest == ""
}
