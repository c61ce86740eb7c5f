package syslog

import (
	"strings"

	"gong/api"
	"gong/quote"
	"gong/stamp"
	"gong/utf"
)

// mostDigits is how many digits a message's number may have, and mostFraction how
// many may stand behind a stamp's point.
const (
	mostDigits   = 3
	mostFraction = 6
)

// reader takes the parts of a message from its text, one behind the other, whether
// they may be or not. Who reads looks but once, at the end, whether something can't
// stand where it does.
type reader struct {
	rest  string
	wrong bool
}

func (r *reader) message() api.Log {
	priority := r.priority()
	m := api.Log{Facility: priority / levels, Level: priority % levels, Time: r.time()}
	var names [manyNames]string
	for i := range names {
		names[i] = r.name()
	}
	m.Host, m.App, m.Proc, m.Id = names[0], names[1], names[2], names[3]
	m.Data = r.data()
	m.Text, m.Bom = utf.Mark(r.end())
	return m
}

// word reads up to the next blank, and that. Where there is none, nothing is left:
// then the data, which must still come, will be missed.
func (r *reader) word() string {
	word, rest, _ := strings.Cut(r.rest, blank)
	r.rest = rest
	return word
}

// must tells that something is wrong, if it is not so.
func (r *reader) must(ok bool) {
	if !ok {
		r.wrong = true
	}
}

// priority reads the number that a text begins with.
func (r *reader) priority() int {
	number, opened := strings.CutPrefix(r.word(), opens)
	number, closed := strings.CutSuffix(number, closes)
	n, ok := small(number)
	r.must(opened && closed && ok)
	return n
}

// small is the number whose digits s has, without a 0 ahead.
func small(s string) (n int, ok bool) {
	if s == "" || len(s) > mostDigits || s[0] == '0' && s != "0" {
		return 0, false
	}
	for i := range len(s) {
		if s[i] < '0' || s[i] > '9' {
			return 0, false
		}
		n = 10*n + int(s[i]-'0')
	}
	return n, true
}

func (r *reader) time() int {
	s := r.word()
	if s == none {
		return noTime
	}
	t, e := stamp.Parse(s)
	r.must(e == api.OK && fractionLong(s) <= mostFraction)
	return t
}

// fractionLong is how many digits there are behind the point of the stamp s; below
// 0, if it has none.
func fractionLong(s string) int {
	_, behind, _ := strings.Cut(s, ".")
	return strings.IndexAny(behind, "Z+-")
}

func (r *reader) name() string {
	s := r.word()
	r.must(s != "")
	if s == none {
		return ""
	}
	return s
}

func (r *reader) data() []api.Element {
	data, rest, e := quote.Parse(r.rest)
	r.rest = rest
	r.must(e == api.OK)
	return data
}

// end reads what stands behind the data: nothing, or what stands behind a blank.
func (r *reader) end() string {
	s, ok := strings.CutPrefix(r.rest, blank)
	r.must(ok || r.rest == "")
	return s
}
