package syslog_test

import (
	"math"
	"regexp"
	"strconv"
	"strings"
	"testing"
	"time"
	"unicode/utf8"

	"gong/api"
	"gong/quote"
	"gong/syslog"
)

const (
	bom    = "\xef\xbb\xbf"
	second = 1000000000
)

// The chapter's words for a message's text: ahead of its data, and for a name.
var (
	headForm = regexp.MustCompile(`\A<(0|[1-9][0-9]{0,2})>1 (-|[^ ]+) ([!-~]{1,255}) ([!-~]{1,48}) ([!-~]{1,128}) ([!-~]{1,32}) `)
	nameForm = regexp.MustCompile(`\A[!-~]*\z`)
	timeForm = regexp.MustCompile(`\A[0-9]{4}-[0-9]{2}-[0-9]{2}T[0-9]{2}:[0-9]{2}:[0-9]{2}(\.[0-9]{1,6})?(Z|[+-]([01][0-9]|2[0-3]):[0-5][0-9])\z`)
)

// long is the bytes that Host, App, Proc and Id may have.
func long(i int) int {
	return []int{255, 48, 128, 32}[i]
}

// name is where m keeps the name of that place.
func name(m *api.Log, i int) *string {
	return []*string{&m.Host, &m.App, &m.Proc, &m.Id}[i]
}

// plainCheck is the chapter's words for what messages may be.
func plainCheck(m api.Log) bool {
	for i := range 4 {
		s := *name(&m, i)
		if len(s) > long(i) || s == "-" || !nameForm.MatchString(s) {
			return false
		}
	}
	marked := strings.HasPrefix(m.Text, bom)
	return m.Facility >= 0 && m.Facility <= 23 && m.Level >= 0 && m.Level <= 7 &&
		(m.Time == -1 || m.Time >= 0 && m.Time <= 1<<61 && m.Time%1000 == 0) &&
		quote.Check(m.Data) == api.OK &&
		(m.Bom && utf8.ValidString(m.Text) || !m.Bom && !marked)
}

// plainStamp is the chapter's words for a time in a text.
func plainStamp(s string) (int, bool) {
	if s == "-" {
		return -1, true
	}
	if !timeForm.MatchString(s) {
		return 0, false
	}
	x, err := time.Parse(time.RFC3339Nano, s)
	if err != nil || x.Unix() < 0 || x.Unix() > 1<<61/second {
		return 0, false
	}
	n := int(x.UnixNano())
	return n, n <= 1<<61
}

// plainText is the chapter's words for the text of a message that may be.
func plainText(m api.Log) string {
	stamp := "-"
	if m.Time >= 0 {
		stamp = time.Unix(0, int64(m.Time)).UTC().Format("2006-01-02T15:04:05.999999999Z")
	}
	s := "<" + strconv.Itoa(m.Facility*8+m.Level) + ">1 " + stamp
	for i := range 4 {
		if n := *name(&m, i); n != "" {
			s += " " + n
		} else {
			s += " -"
		}
	}
	s += " " + plainData(m.Data)
	if m.Bom {
		return s + " " + bom + m.Text
	}
	if m.Text != "" {
		return s + " " + m.Text
	}
	return s
}

// plainData is how data is told, however long that is.
func plainData(data []api.Element) string {
	if len(data) == 0 {
		return "-"
	}
	var b strings.Builder
	for _, e := range data {
		b.WriteString("[" + e.Id)
		for _, p := range e.Params {
			b.WriteString(" " + p.Name + `="` + quote.Escape(p.Value) + `"`)
		}
		b.WriteString("]")
	}
	return b.String()
}

// plainParse is the chapter's words for the message that s is the text of.
func plainParse(s string) (m api.Log, ok bool) {
	head := headForm.FindStringSubmatch(s)
	if len(s) > 65535 || head == nil {
		return m, false
	}
	n, _ := strconv.Atoi(head[1])
	if n > 191 {
		return m, false
	}
	m.Facility, m.Level = n>>3, n&7
	if m.Time, ok = plainStamp(head[2]); !ok {
		return m, false
	}
	for i := range 4 {
		*name(&m, i) = head[3+i]
		if head[3+i] == "-" {
			*name(&m, i) = ""
		}
	}
	data, rest, e := quote.Parse(s[len(head[0]):])
	if e != api.OK || rest != "" && rest[0] != ' ' {
		return m, false
	}
	m.Data = data
	if rest != "" {
		m.Text = rest[1:]
	}
	if strings.HasPrefix(m.Text, bom) {
		m.Bom, m.Text = true, m.Text[3:]
	}
	return m, !m.Bom || utf8.ValidString(m.Text)
}

func same(a, b api.Log) bool {
	if a.Facility != b.Facility || a.Level != b.Level || a.Time != b.Time || a.Bom != b.Bom || a.Text != b.Text || !quote.Same(a.Data, b.Data) {
		return false
	}
	return a.Host == b.Host && a.App == b.App && a.Proc == b.Proc && a.Id == b.Id
}

// el is an element of an id, and of names and values by turns.
func el(id string, words ...string) api.Element {
	e := api.Element{Id: id}
	for i := 0; i < len(words); i += 2 {
		e.Params = append(e.Params, api.Param{Name: words[i], Value: words[i+1]})
	}
	return e
}

// holds holds Check and Print of m to the chapter's words, and what is printed to
// what is read of it.
func holds(t *testing.T, m api.Log) {
	t.Helper()
	e, wrong := api.Code(api.OK), syslog.Check(m)
	s, c := syslog.Print(m)
	want := ""
	if !plainCheck(m) {
		e = api.ErrLog
	}
	if wrong != e {
		t.Errorf("%.300q: %d, and not %d", tell(m), wrong, e)
	}
	if e == api.OK {
		if want = plainText(m); len(want) > 65535 {
			want, e = "", api.ErrLong
		}
	}
	if s != want || c != e {
		t.Errorf("%.300q: %.300q, %d, and not %.300q, %d", tell(m), s, c, want, e)
	}
	if e == api.OK {
		reads(t, s, m)
	}
}

// tell tells all parts of m.
func tell(m api.Log) []string {
	return []string{strconv.Itoa(m.Facility), strconv.Itoa(m.Level), strconv.Itoa(m.Time), m.Host, m.App, m.Proc, m.Id, plainData(m.Data), strconv.FormatBool(m.Bom), m.Text}
}

func reads(t *testing.T, s string, want api.Log) {
	t.Helper()
	m, e := syslog.Parse(s)
	if !same(m, want) || e != api.OK {
		t.Errorf("%.300q: %.300q, %d, and not %.300q", s, tell(m), e, tell(want))
	}
}

func refuses(t *testing.T, s string) {
	t.Helper()
	if m, e := syslog.Parse(s); !same(m, api.Log{}) || m.Data != nil || e != api.ErrLog {
		t.Errorf("%.300q: %.300q, %d", s, tell(m), e)
	}
}

// su is the chapter's example, but its text.
func su() api.Log {
	return api.Log{Facility: 4, Level: 2, Time: 1065910455003000000, Host: "mymachine.example.com", App: "su", Id: "ID47"}
}

// known are messages, and their texts.
func known() []struct {
	m api.Log
	s string
} {
	failed := su()
	failed.Text = "'su root' failed"
	marked := su()
	marked.Bom, marked.Text = true, "'su root' failed for \xce\xbb on /dev/pts/8"
	event := api.Element{Id: "exampleSDID@32473", Params: []api.Param{{Name: "iut", Value: "3"}, {Name: "eventSource", Value: "Application"}, {Name: "eventID", Value: "1011"}}}
	entry := api.Log{Facility: 20, Level: 5, Time: 1065910455003000000, Host: "mymachine.example.com", App: "evntslog", Id: "ID47", Data: []api.Element{event}, Bom: true, Text: "An application event log entry..."}
	bare := entry
	bare.Data, bare.Bom, bare.Text = []api.Element{event, el("examplePriority@32473", "class", "high")}, false, ""
	return []struct {
		m api.Log
		s string
	}{
		{failed, "<34>1 2003-10-11T22:14:15.003Z mymachine.example.com su - ID47 - 'su root' failed"},
		{marked, "<34>1 2003-10-11T22:14:15.003Z mymachine.example.com su - ID47 - " + bom + "'su root' failed for \xce\xbb on /dev/pts/8"},
		{api.Log{Facility: 20, Level: 5, Time: 1061727255000003000, Host: "192.0.2.1", App: "myproc", Proc: "8710", Text: "%% It's time"}, "<165>1 2003-08-24T12:14:15.000003Z 192.0.2.1 myproc 8710 - - %% It's time"},
		{entry, `<165>1 2003-10-11T22:14:15.003Z mymachine.example.com evntslog - ID47 [exampleSDID@32473 iut="3" eventSource="Application" eventID="1011"] ` + bom + "An application event log entry..."},
		{bare, `<165>1 2003-10-11T22:14:15.003Z mymachine.example.com evntslog - ID47 [exampleSDID@32473 iut="3" eventSource="Application" eventID="1011"][examplePriority@32473 class="high"]`},
		{api.Log{Time: -1}, "<0>1 - - - - - -"},
		{api.Log{}, "<0>1 1970-01-01T00:00:00Z - - - - -"},
		{api.Log{Facility: 23, Level: 7, Time: 1000}, "<191>1 1970-01-01T00:00:00.000001Z - - - - -"},
		{api.Log{Time: -1, Bom: true}, "<0>1 - - - - - - " + bom},
		{api.Log{Time: -1, Bom: true, Text: bom}, "<0>1 - - - - - - " + bom + bom},
		{api.Log{Time: -1, Text: " "}, "<0>1 - - - - - -  "},
		{api.Log{Time: -1, Text: "-"}, "<0>1 - - - - - - -"},
		{api.Log{Time: -1, Text: "\xff\x00\n"}, "<0>1 - - - - - - \xff\x00\n"},
		{api.Log{Time: -1, Text: "\xef\xbb"}, "<0>1 - - - - - - \xef\xbb"},
		{api.Log{Time: -1, Text: " " + bom}, "<0>1 - - - - - -  " + bom},
		{api.Log{Facility: 1, Level: 2, Time: -1, Host: "h", App: "a", Proc: "p", Id: "i", Data: []api.Element{el("e", "n", "v]")}, Text: "t"}, `<10>1 - h a p i [e n="v\]"] t`},
		{api.Log{Time: -1, Host: "--", App: "[", Proc: "<0>1", Id: "]"}, "<0>1 - -- [ <0>1 ] -"},
		{api.Log{Time: -1, Host: strings.Repeat("h", 255), App: strings.Repeat("a", 48), Proc: strings.Repeat("p", 128), Id: strings.Repeat("i", 32)},
			"<0>1 - " + strings.Repeat("h", 255) + " " + strings.Repeat("a", 48) + " " + strings.Repeat("p", 128) + " " + strings.Repeat("i", 32) + " -"},
	}
}

// 11.1, 11.2, 11.4: messages and their texts, there and back.
func TestKnown(t *testing.T) {
	for _, x := range known() {
		if s, e := syslog.Print(x.m); s != x.s || e != api.OK || syslog.Check(x.m) != api.OK {
			t.Errorf("%q: %q, %d", tell(x.m), s, e)
		}
		reads(t, x.s, x.m)
		holds(t, x.m)
	}
}

// numbers are some, at the edges of what a message has and far from them.
func numbers() []int {
	all := []int{math.MinInt, math.MinInt + 1, -1 << 32, -8, math.MaxInt, math.MaxInt - 1, 1 << 32, 1<<32 + 1, 1 << 61, 191, 192, 255, 256}
	for n := -2; n < 30; n++ {
		all = append(all, n)
	}
	return all
}

// 11.1, 11.3: facilities and levels.
func TestFacilityAndLevel(t *testing.T) {
	for _, facility := range numbers() {
		for _, level := range numbers() {
			m := su()
			m.Facility, m.Level = facility, level
			holds(t, m)
			if n := syslog.Priority(m); n != 8*facility+level {
				t.Errorf("%d, %d: %d", facility, level, n)
			}
		}
	}
}

// 11.1: times: none (-1, and no other number below 0), whole microseconds, and others.
func TestTime(t *testing.T) {
	all := []int{math.MinInt, math.MinInt + 1, -1 << 61, -second, -1000, -999, -2, -1, 0, 1, 500, 999, 1000, 1001, 1999, 2000, second - 1000, second - 1, second, second + 1, second + 100, second + 1000, math.MaxInt - 7, math.MaxInt}
	for _, near := range []int{1065910455003000000, 1 << 60, 1 << 61} {
		for k := -2000; k <= 2000; k++ {
			all = append(all, near+k)
		}
	}
	for n := 1; n < 1<<61; n = n*3 + n/7 + 1 {
		all = append(all, n, n-n%1000, n-n%1000000, n-n%second)
	}
	for _, n := range all {
		m := su()
		m.Time = n
		holds(t, m)
		m.Text = "x"
		holds(t, m)
	}
}

// 11.1: each byte at each place of each name, and each length.
func TestNames(t *testing.T) {
	for i := range 4 {
		m := su()
		set := func(s string) {
			*name(&m, i) = s
			holds(t, m)
		}
		for b := range 256 {
			c := string([]byte{byte(b)})
			for _, s := range []string{c, c + "a", "a" + c, "a" + c + "a", c + c, strings.Repeat("a", long(i)-1) + c, strings.Repeat("a", long(i)) + c, c + strings.Repeat("-", long(i)-1)} {
				set(s)
			}
		}
		for n := range 600 {
			set(strings.Repeat("x", n))
			set(strings.Repeat("-", n))
		}
		for _, s := range []string{"-", "--", "- ", " -", "-a", "\xc3\xa4", "a\x00", strings.Repeat("a", 1<<17)} {
			set(s)
		}
	}
}

// 11.1: data that may be, and such that may not.
func TestData(t *testing.T) {
	many := make([]api.Element, 4097)
	for i := range many {
		many[i].Id = strconv.Itoa(i)
	}
	for _, data := range [][]api.Element{nil, {}, {el("a")}, {el("a"), el("b")}, {el("-", "-", "-")}, {el("a", "b", "\xff")}, {el("")}, {el("a b")}, {el("a"), el("a")}, {el("a", "", "")}, {el("a", "b=", "")}, {el("a", "b", bom)}, many, many[:4096]} {
		m := su()
		m.Data = data
		holds(t, m)
		m.Bom, m.Text = true, "x"
		holds(t, m)
	}
}

// 11.1: texts with and without a mark.
func TestText(t *testing.T) {
	parts := []string{"", " ", "-", "a", "\x00", "\n", "\xef", "\xbb", "\xbf", "\xc3\xa4", "\xff", bom, "[a]"}
	for _, a := range parts {
		for _, b := range parts {
			for _, c := range parts {
				m := su()
				m.Text = a + b + c
				holds(t, m)
				m.Bom = true
				holds(t, m)
			}
		}
	}
}

// 11.1: a text may have 65535 bytes, and no more, whatever part it is that is long.
func TestLong(t *testing.T) {
	for k := 65400; k <= 65600; k++ {
		s := strings.Repeat("x", k)
		holds(t, api.Log{Time: -1, Text: s})
		holds(t, api.Log{Time: -1, Bom: true, Text: s})
		holds(t, api.Log{Data: []api.Element{el("a", "b", s)}})
		holds(t, api.Log{Data: []api.Element{el("a", "b", s)}, Bom: true})
	}
	half := strings.Repeat(`]`, 1<<14)
	for k := range 100 {
		holds(t, api.Log{Time: -1, Data: []api.Element{el("a", "b", half)}, Text: half + half[:1<<14-k]})
	}
	for _, s := range []string{strings.Repeat("x", 1<<20), strings.Repeat("]", 1<<16)} {
		holds(t, api.Log{Text: s})
		holds(t, api.Log{Data: []api.Element{el("a", "b", s)}, Text: s})
	}
}

// 11.3: messages are the same just if each part is.
func TestSame(t *testing.T) {
	base := api.Log{Facility: 1, Level: 1, Time: 1000, Host: "a", App: "a", Proc: "a", Id: "a", Data: []api.Element{el("a", "a", "a")}, Text: "a"}
	all := []api.Log{base, {}, {Time: -1}, {Time: -2}}
	turn := func(f func(m *api.Log)) {
		m := base
		f(&m)
		all = append(all, m)
	}
	turn(func(m *api.Log) { m.Facility = 2 })
	turn(func(m *api.Log) { m.Facility, m.Level = 0, 9 })
	turn(func(m *api.Log) { m.Level = 2 })
	turn(func(m *api.Log) { m.Time = 1001 })
	turn(func(m *api.Log) { m.Time = -1 })
	for i := range 4 {
		turn(func(m *api.Log) { *name(m, i) = "" })
		turn(func(m *api.Log) { *name(m, i) = "b" })
		turn(func(m *api.Log) { *name(m, i), *name(m, (i+1)%4) = "", "aa" })
	}
	turn(func(m *api.Log) { m.Data = nil })
	turn(func(m *api.Log) { m.Data = []api.Element{el("a", "a", "b")} })
	turn(func(m *api.Log) { m.Data = []api.Element{el("a", "a", "a"), el("b")} })
	turn(func(m *api.Log) { m.Bom = true })
	turn(func(m *api.Log) { m.Text = "" })
	turn(func(m *api.Log) { m.Text = "a " })
	turn(func(m *api.Log) { m.Text = bom + "a" })
	for i, a := range all {
		for j, b := range all {
			b.Data = append([]api.Element{}, b.Data...)
			if syslog.Same(a, b) != (i == j) {
				t.Errorf("%q, %q: %t", tell(a), tell(b), i != j)
			}
		}
	}
}
