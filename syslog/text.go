package syslog

import (
	"strconv"
	"strings"

	"gong/api"
	"gong/quote"
	"gong/stamp"
)

// mostBytes is how long a message's text may be: as long as a datagram's length can tell.
const mostBytes = 65535

// What stands around a message's number, between its parts, and ahead of what is
// UTF-8 for sure.
const (
	opens  = "<"
	closes = ">1"
	blank  = " "
	mark   = "\xef\xbb\xbf"
)

// Print is the text of m.
func Print(m api.Log) (string, api.Code) {
	if e := Check(m); e != api.OK {
		return "", e
	}
	data, e := quote.Print(m.Data)
	if e != api.OK {
		return "", e // too long, even alone
	}
	words := []string{opens + strconv.Itoa(Priority(m)) + closes, stampOf(m.Time)}
	for _, s := range namesOf(m) {
		words = append(words, orNone(s))
	}
	s := strings.Join(append(words, data), blank) + endOf(m)
	if len(s) > mostBytes {
		return "", api.ErrLong
	}
	return s, api.OK
}

// stampOf is how the time t is told, which may be none.
func stampOf(t int) string {
	s, _ := stamp.Print(t) // nothing, of what is below 0
	return orNone(s)
}

func orNone(s string) string {
	if s == "" {
		return none
	}
	return s
}

// endOf is what stands behind the data.
func endOf(m api.Log) string {
	switch {
	case m.Bom:
		return blank + mark + m.Text
	case m.Text != "":
		return blank + m.Text
	}
	return ""
}

// Parse is the message that s is the text of.
func Parse(s string) (api.Log, api.Code) {
	if len(s) > mostBytes {
		return api.Log{}, api.ErrLog
	}
	r := reader{rest: s}
	m := r.message()
	if r.wrong || Check(m) != api.OK {
		return api.Log{}, api.ErrLog
	}
	return m, api.OK
}
