package syslog_test

import (
	"strconv"
	"strings"
	"testing"

	"gong/api"
	"gong/syslog"
)

// parses holds Parse of s to the chapter's words.
func parses(t *testing.T, s string) {
	t.Helper()
	if m, ok := plainParse(s); ok {
		reads(t, s, m)
	} else {
		refuses(t, s)
	}
}

// 11.2: texts that are not as they would be printed.
func TestParse(t *testing.T) {
	for _, x := range []struct {
		s string
		m api.Log
	}{
		{"<34>1 2003-10-12T00:14:15.003000+02:00 mymachine.example.com su - ID47 -", su()},
		{"<165>1 2003-08-24T05:14:15.000003-07:00 - - - - -", api.Log{Facility: 20, Level: 5, Time: 1061727255000003000}},
		{"<0>1 1969-12-31T23:59:00.0-00:01 - - - - -", api.Log{}},
		{"<0>1 - - - - - - ", api.Log{Time: -1}},
		{"<9>1 - - - - - [a] ", api.Log{Facility: 1, Level: 1, Time: -1, Data: []api.Element{el("a")}}},
		{"<0>1 - - - - - -  x", api.Log{Time: -1, Text: " x"}},
		{"<0>1 - - - - - - [a]", api.Log{Time: -1, Text: "[a]"}},
		{"<0>1 - - - - - [a] [b]", api.Log{Time: -1, Data: []api.Element{el("a")}, Text: "[b]"}},
		{`<0>1 - - - - - [a b="\c"]`, api.Log{Time: -1, Data: []api.Element{el("a", "b", `\c`)}}},
		{"<0>1 - - - - - - \n", api.Log{Time: -1, Text: "\n"}},
		{"<0>1 - - - - - -  " + bom + "\xff", api.Log{Time: -1, Text: " " + bom + "\xff"}},
	} {
		reads(t, x.s, x.m)
		parses(t, x.s)
	}
}

// 11.2: what is no message's text.
func TestParseRefuses(t *testing.T) {
	for _, s := range []string{
		"", " ", "<", "<>", "<0", "<0>", "<0>1", "<0>1 ", "<0>1 -", "<0>1 - - - - -", "<0>1 - - - - - ", "<0>1 - - - -", "x<0>1 - - - - - -", " <0>1 - - - - - -", bom + "<0>1 - - - - - -",
		"<>1 - - - - - -", "0>1 - - - - - -", "<0 - - - - - -", "<01 - - - - - -", "<0>2 - - - - - -", "<0>0 - - - - - -", "<0>11 - - - - - -", "<0>01 - - - - - -", "<0>  - - - - - -", "<0> 1 - - - - - -", "<0>- - - - - - -", "<0>1- - - - - -", "<<0>1 - - - - - -", "<0>>1 - - - - - -", "<0>1>1 - - - - - -", "(0)1 - - - - - -", "<0>1\t- - - - - -", "<0>1\n- - - - - -",
		"<0>1  - - - - -", "<0>1 -  - - - -", "<0>1 - - - - -  ", "<0>1  - - - - - -", "<0>1 -  - - - - -", "<0>1 - - - -  - -", "<0>1 - - - - -  -",
		"<0>1 - - - - - x", "<0>1 - - - - - --", "<0>1 - - - - - -x", "<0>1 - - - - - -[a]", "<0>1 - - - - - [a]x", "<0>1 - - - - - [a]-", "<0>1 - - - - - [a", "<0>1 - - - - - []", "<0>1 - - - - - [a][a]", "<0>1 - - - - - [a]\n", "<0>1 - - - - - -\n", "<0>1 - - - - - -\t", "<0>1 - - - - - -" + bom, "<0>1 - - - - - [a b=\"\xff\"]",
		"<0>1 - - - - - - " + bom + "\xff", "<0>1 - - - - - - " + bom + "a\xc3", "<0>1 - - - - - - " + bom + "\xed\xa0\x80",
		"<0>1 - \xc3\xa4 - - - -", "<0>1 - a\x7f - - - -", "<0>1 - \n - - - -", "<0>1 - - - - \x00 -", "<0>1 - -\t- - - - -",
		"<34>1 2003-08-24T05:14:15.000000003-07:00 192.0.2.1 myproc 8710 - -", "<34>Oct 11 22:14:15 mymachine su: 'su root' failed",
	} {
		if _, ok := plainParse(s); ok {
			t.Errorf("%q is one", s)
		}
		refuses(t, s)
	}
}

// 11.2: each number, and what is none.
func TestNumbers(t *testing.T) {
	of := func(number string) string { return "<" + number + ">1 - - - - - -" }
	for n := range 2100 {
		s := strconv.Itoa(n)
		if n <= 191 {
			reads(t, of(s), api.Log{Facility: n / 8, Level: n % 8, Time: -1})
		} else {
			refuses(t, of(s))
		}
		for _, wrong := range []string{"0" + s, "00" + s, "+" + s, "-" + s, " " + s, s + " ", s + ".", s + "0x", "\n" + s} {
			refuses(t, of(wrong))
		}
	}
	for _, s := range []string{"a", "1a", "a1", "1a1", "0x1", "1_0", "1e1", "/", ":", "1/", "1:", "9:", "\xd9\xa1", "18446744073709551616", "4294967296", "0.0", "--1"} {
		refuses(t, of(s))
	}
}

// 11.2: stamps, with each count of digits behind the point, and each zone.
func TestStamps(t *testing.T) {
	for _, s := range []string{"2003-10-11T22:14:15", "1970-01-01T00:00:00", "1969-12-31T12:00:00", "2043-01-25T23:56:49", "2043-01-26T12:00:00", "2004-02-29T23:59:59", "2003-02-29T00:00:00", "2003-13-01T00:00:00", "9999-12-31T23:59:59", "2003-10-11t22:14:15", "2003-10-11 22:14:15", "2003-10-11T22:14:60"} {
		for _, digits := range []string{"", "0", "1", "003", "000000", "213693", "213694", "999999"} {
			for k := range 11 {
				point := ""
				if k > 0 {
					point = "." + (digits + "0000000000")[:k-1]
				}
				for _, zone := range []string{"Z", "+00:00", "-00:00", "+02:00", "-23:59", "+23:59", "+24:00", "-12:60", "", "z", "+0200", "+2:00", "-"} {
					parses(t, "<0>1 "+s+point+zone+" - - - - -")
					parses(t, "<0>1 "+s+point+zone+" a b c d [e] f.1234567Z")
				}
			}
		}
	}
}

// 11.2: the names of texts: each byte in each of them, and each length.
func TestNamesOfTexts(t *testing.T) {
	of := func(i int, s string) string {
		words := []string{"-", "-", "-", "-"}
		words[i] = s
		return "<0>1 - " + strings.Join(words, " ") + " -"
	}
	for i := range 4 {
		for b := range 256 {
			c := string([]byte{byte(b)})
			parses(t, of(i, c))
			parses(t, of(i, "a"+c))
			parses(t, of(i, c+"a"))
			parses(t, of(i, strings.Repeat("a", long(i)-1)+c))
		}
		for n := range 600 {
			parses(t, of(i, strings.Repeat("x", n)))
			parses(t, of(i, strings.Repeat("-", n)))
		}
	}
}

// walk calls f with all texts of at most so many of the symbols.
func walk(most int, f func(s string), symbols ...string) {
	f("")
	if most == 0 {
		return
	}
	for _, c := range symbols {
		walk(most-1, func(s string) { f(c + s) }, symbols...)
	}
}

// 11.2: all short texts, behind some beginnings.
func TestShortTexts(t *testing.T) {
	for _, ahead := range []string{"", "<0", "<19>1", "<0>1 -", "<0>1 - - - -", "<0>1 - a b c d "} {
		walk(4, func(s string) { parses(t, ahead+s) }, "<", "0", "2", ">", "1", " ", "-", "a")
	}
	for _, ahead := range []string{"<0>1 - - - - -", "<0>1 - - - - - -", "<0>1 - - - - - [a]"} {
		walk(5, func(s string) { parses(t, ahead+s) }, " ", "-", "[b]", bom, "\xef", "\xff", "a")
	}
}

// 11.2: texts that differ from some known ones by a byte: another one, one more, or
// one less; and texts that are cut short.
func TestNearTexts(t *testing.T) {
	for _, x := range known()[:17] {
		s := x.s
		for i := range len(s) {
			parses(t, s[:i])
			parses(t, s[i:])
			parses(t, s[:i]+s[i+1:])
			for b := range 256 {
				c := string([]byte{byte(b)})
				parses(t, s[:i]+c+s[i+1:])
				parses(t, s[:i]+c+s[i:])
			}
		}
	}
}

// 11.2: a text may have 65535 bytes, and no more; what is read may be longer, printed.
func TestLongTexts(t *testing.T) {
	for k := 65500; k <= 65560; k++ {
		for _, s := range []string{"<0>1 - - - - - - ", "<0>1 - - - - - - " + bom, `<0>1 - - - - - [a b="c"] `} {
			parses(t, s+strings.Repeat("x", k-len(s)))
		}
		parses(t, `<0>1 - - - - - [a b="`+strings.Repeat("x", k-23)+`"]`)
		parses(t, strings.Repeat("x", k))
	}
	refuses(t, "<0>1 - - - - - - "+strings.Repeat("x", 1<<20))
	m, e := syslog.Parse(`<0>1 - - - - - [a b="` + strings.Repeat(`\a`, 32000) + `"]`)
	if s, c := syslog.Print(m); e != api.OK || s != "" || c != api.ErrLong || syslog.Check(m) != api.OK {
		t.Errorf("%d, %.90q, %d", e, s, c)
	}
}

// 11.4: what is read, printed, and read again is the same.
func TestReadAgain(t *testing.T) {
	walk(5, func(s string) {
		m, e := syslog.Parse("<13>1 1999-12-31T23:59:59.5-01:30 a - b - " + s)
		if e != api.OK {
			return
		}
		text, e := syslog.Print(m)
		if e != api.OK {
			t.Errorf("%q: %d", s, e)
		}
		reads(t, text, m)
	}, "-", " ", "[c]", "[d e=\"\\f\\]\"]", bom, "\xff")
}
