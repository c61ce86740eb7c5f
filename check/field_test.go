package check_test

import (
	"fmt"
	"math"
	"strconv"
	"strings"
	"testing"

	"gong/check"
)

// asks holds IsField of that name to the chapter's words, wherever the message is from.
func asks(t *testing.T, name string) {
	t.Helper()
	for from := -1; from <= 4; from++ {
		if got := check.IsField(from, name); got != plainIsField(from, name) {
			t.Errorf("IsField(%d, %.200q) = %t", from, name, got)
		}
	}
}

// is holds IsField of that name to what is known.
func is(t *testing.T, name string, ofTraps, ofLogs bool) {
	t.Helper()
	if check.IsField(1, name) != ofTraps || check.IsField(2, name) != ofLogs {
		t.Errorf("IsField(.., %.200q) = %t, %t", name, !ofTraps, !ofLogs)
	}
	asks(t, name)
}

var (
	trapFields = []string{"community", "trap", "uptime", "request", "inform", "bind.1.3", "bind.0.0", "bind.2.999.3", "bind.1.3.6.1.2.1.1.3.0", "bind.0.39", "bind.1.39.0", "bind.2.4294967215", "bind.1.3.4294967295", "bind#1", "bind#9", "bind#10", "bind#4096"}
	logFields  = []string{"facility", "level", "stamp", "host", "app", "proc", "id", "text", "sd.a.b", "sd.exampleSDID@32473.iut", "sd.a.b.c", "sd...a", "sd....a", "sd.a..b", "sd.#.#", "sd.$.~", "sd.sd.sd", "sd.!.!", "sd.\\.[", "sd.bind#1.bind#1"}
	noFields   = []string{"", "a", "Source", "SOURCE", "source ", " source", "source.", "source\x00", "sourc", "sources", "node", "class", "key", "message", "msg", "time", "data", "bind", "bind.", "bind#", "bind.1", "bind.3.1", "bind.1.40", "bind.0.40", "bind.2.4294967216", "bind.1.3.4294967296", "bind.1.3.", "bind..1.3", "bind.1..3", "bind.01.3", "bind.1.03", "bind.1.3 ", "bind. 1.3", "bind.1.-3", "bind.1.+3", "bind.a", "bind.sysUpTime", "Bind.1.3", "bind1.3",
		"bind#0", "bind#00", "bind#01", "bind#4097", "bind#4099", "bind#5000", "bind#10000", "bind#-1", "bind#+1", "bind# 1", "bind#1 ", "bind#1.3", "bind#1_0", "bind#0x1", "bind#1e1", "bind#a", "bind#18446744073709551617", "bind#9223372036854775808", "Bind#1", "bind.#1", "bind##1", "#1",
		"sd", "sd.", "sd..", "sd..a", "sd.a", "sd.a.", "sd.a.b.", "sd.a b.c", "sd.a.b c", "sd.a=.b", "sd.a.=", "sd.].b", "sd.a.b]", "sd.\".b", "sd.a.\"", "sd.\x7f.a", "sd.a.\x7f", "sd.a.\xc3\xa4", "sd.\xff.a", "sd.a.\x00", "sda.b", "sd#a.b", "Sd.a.b", "SD.a.b", "sd .a.b"}
)

// 16.1: the fields of traps, those of logs, and what is none of either.
func TestIsField(t *testing.T) {
	is(t, "source", true, true)
	for _, s := range trapFields {
		is(t, s, true, false)
	}
	for _, s := range logFields {
		is(t, s, false, true)
	}
	for _, s := range noFields {
		is(t, s, false, false)
	}
	is(t, "sd."+strings.Repeat("a", 32)+"."+strings.Repeat("b", 32), false, true)
	is(t, "sd."+strings.Repeat("a", 33)+".b", false, false)
	is(t, "sd.a."+strings.Repeat("b", 33), false, false)
	is(t, "sd."+strings.Repeat(".", 32)+".b", false, true)
	is(t, "sd."+strings.Repeat(".", 33)+".b", false, false)
	is(t, "bind.1"+strings.Repeat(".1", 127), true, false)
	is(t, "bind.1"+strings.Repeat(".1", 128), false, false)
	is(t, "bind.1"+strings.Repeat(".4294967295", 127), false, false)
	is(t, "bind.2"+strings.Repeat(".4294967215", 127), true, false)
}

// 16.1: a message that is from neither has no field.
func TestFromNowhere(t *testing.T) {
	for _, from := range []int{math.MinInt, -2, -1, 0, 3, 4, 1 << 32, 1<<32 + 1, 1<<32 + 2, math.MaxInt} {
		for _, s := range append(append([]string{"source", ""}, trapFields...), logFields...) {
			if check.IsField(from, s) {
				t.Errorf("IsField(%d, %q)", from, s)
			}
		}
	}
}

// 16.1: each field left short of a byte, with one more, or with one turned, anywhere.
func TestNearFields(t *testing.T) {
	for _, s := range append(append([]string{"source"}, trapFields...), logFields...) {
		for i := range len(s) + 1 {
			asks(t, s[:i])
			asks(t, s[i:])
			for c := range 256 {
				x := string([]byte{byte(c)})
				asks(t, s[:i]+x+s[i:])
				if i < len(s) {
					asks(t, s[:i]+x+s[i+1:])
				}
			}
			if i < len(s) {
				asks(t, s[:i]+s[i+1:])
			}
		}
	}
}

// 16.1: every number of a bind, up to far beyond the most.
func TestBindNumbers(t *testing.T) {
	for n := -10; n <= 70000; n++ {
		s := strconv.Itoa(n)
		is(t, "bind#"+s, n >= 1 && n <= 4096, false)
		is(t, "bind#0"+s, false, false)
	}
}

// 16.1: a bind's identifier, with each first arc, and arcs at each edge.
func TestBindIdentifiers(t *testing.T) {
	edges := []int{0, 1, 2, 3, 38, 39, 40, 127, 128, 1<<32 - 82, 1<<32 - 81, 1<<32 - 80, 1<<32 - 1, 1 << 32, 1 << 40}
	for first := range 5 {
		asks(t, fmt.Sprintf("bind.%d", first))
		for _, a := range edges {
			asks(t, fmt.Sprintf("bind.%d.%d", first, a))
			for _, b := range edges {
				asks(t, fmt.Sprintf("bind.%d.%d.%d", first, a, b))
			}
		}
	}
}

// 16.1: all short texts of what has a meaning behind sd., bind. and bind#; the last
// point parts the names.
func TestShortFields(t *testing.T) {
	walk(6, func(s string) { asks(t, "sd."+s) }, ".", "a", "b", "#", "=", " ")
	walk(6, func(s string) {
		asks(t, "bind."+s)
		asks(t, "bind#"+s)
		asks(t, "bind"+s)
	}, ".", "0", "1", "2", "39", "-")
	for c := range 256 {
		x := string([]byte{byte(c)})
		for _, s := range []string{x, x + x, "a" + x, x + "a", "a" + x + "a", strings.Repeat(x, 32), strings.Repeat(x, 33), strings.Repeat("a", 31) + x} {
			asks(t, "sd."+s+".a")
			asks(t, "sd.a."+s)
			asks(t, "sd."+s+".a.a")
		}
	}
}

// walk goes through all texts of at most so many of the symbols.
func walk(most int, see func(s string), symbols ...string) {
	var on func(s string, left int)
	on = func(s string, left int) {
		see(s)
		for _, x := range symbols {
			if left > 0 {
				on(s+x, left-1)
			}
		}
	}
	on("", most)
}
