package trap_test

import (
	"math"
	"slices"
	"strings"
	"testing"

	"gong/api"
	"gong/ber"
	"gong/oid"
	"gong/trap"
	"gong/value"
)

// isName tells whether s is an identifier's text.
func isName(s string) bool {
	_, e := oid.Arcs(s)
	return e == api.OK
}

// plainCheck is the chapter's words for what may be.
func plainCheck(x api.Trap) bool {
	if len(x.Community) < 1 || len(x.Community) > 64 || x.Request < -2147483648 || x.Request > 2147483647 || x.Uptime < 0 || x.Uptime > 4294967295 || !isName(x.Id) || len(x.Binds) > 4094 {
		return false
	}
	for _, b := range x.Binds {
		if !isName(b.Oid) || value.Check(b.V) != api.OK {
			return false
		}
	}
	return true
}

// element is that of a tag and a body, as ber writes it.
func element(tag int, body string) string {
	s, e := ber.Wrap(tag, body)
	if e != api.OK {
		panic(e)
	}
	return s
}

// bind is the element of a variable and its value, both of which may be.
func bind(name string, v api.Value) string {
	n, _ := oid.Encode(name)
	s, _ := value.Encode(v)
	return element(48, element(6, n)+s)
}

// binds are the elements of x's binds, its own two ahead of them.
func binds(x api.Trap) string {
	var b strings.Builder
	b.WriteString(bind("1.3.6.1.2.1.1.3.0", api.Value{Kind: api.VTicks, N: x.Uptime}))
	b.WriteString(bind("1.3.6.1.6.3.1.1.4.1.0", api.Value{Kind: api.VOid, S: x.Id}))
	for _, y := range x.Binds {
		b.WriteString(bind(y.Oid, y.V))
	}
	return b.String()
}

func number(n int) string {
	return element(2, ber.PutNumber(n))
}

// unit is the element of a unit of that tag, and of elements of binds.
func unit(tag, request, status, index int, binds string) string {
	return element(tag, number(request)+number(status)+number(index)+element(48, binds))
}

// message is that of a community, and a unit's element.
func message(community, unit string) string {
	return element(48, number(1)+element(4, community)+unit)
}

// plainMessage is the chapter's words for the message of x, and for its answer.
func plainMessage(x api.Trap) (s, answer string) {
	tag := 167
	if x.Inform {
		tag = 166
	}
	b := binds(x)
	return message(x.Community, unit(tag, x.Request, 0, 0, b)), message(x.Community, unit(162, x.Request, 0, 0, b))
}

func same(a, b api.Trap) bool {
	return a.Community == b.Community && a.Inform == b.Inform && a.Request == b.Request && a.Uptime == b.Uptime && a.Id == b.Id && slices.Equal(a.Binds, b.Binds)
}

// tell is enough of x to know it again.
func tell(x api.Trap) []any {
	return []any{x.Community, x.Inform, x.Request, x.Uptime, x.Id, len(x.Binds), x.Binds[:min(2, len(x.Binds))]}
}

// holds holds x to the chapter's words, there and back.
func holds(t *testing.T, x api.Trap) {
	t.Helper()
	code := api.ErrTrap
	if plainCheck(x) {
		code = api.OK
	}
	if e := trap.Check(x); e != code {
		t.Errorf("Check(%.300v) = %d", tell(x), e)
	}
	want, answer, asked := "", "", code
	if code == api.OK {
		want, answer = plainMessage(x)
		if len(want) > 65535 {
			want, answer, code, asked = "", "", api.ErrLong, api.ErrLong
		}
		if !x.Inform {
			answer, asked = "", api.ErrNone
		}
	}
	if s, e := trap.Encode(x); s != want || e != code {
		t.Errorf("Encode(%.300v) = %.60q (%d), %d, and not %.60q (%d), %d", tell(x), s, len(s), e, want, len(want), code)
	}
	if s, e := trap.Answer(x); s != answer || e != asked {
		t.Errorf("Answer(%.300v) = %.60q (%d), %d, and not %.60q (%d), %d", tell(x), s, len(s), e, answer, len(answer), asked)
	}
	if want != "" {
		isRead(t, want, x)
	}
	if answer != "" {
		isNot(t, answer)
	}
}

// isRead holds s to being the message of x, by those who know its community.
func isRead(t *testing.T, s string, x api.Trap) {
	t.Helper()
	if back, e := trap.Decode(s, []string{x.Community}); !same(back, x) || e != api.OK {
		t.Errorf("Decode(%.90q) = %.300v, %d, and not %.300v", s, tell(back), e, tell(x))
	}
	isRefused(t, s, []string{x.Community + "!"}, api.ErrWho)
}

// isNot holds s to being no trap's message, whoever is known.
func isNot(t *testing.T, s string) {
	t.Helper()
	isRefused(t, s, []string{"public", "", "a", "\x00"}, api.ErrTrap)
	isRefused(t, s, nil, api.ErrTrap)
}

// isRefused holds Decode to refusing s.
func isRefused(t *testing.T, s string, known []string, want api.Code) {
	t.Helper()
	if x, e := trap.Decode(s, known); !same(x, api.Trap{}) || e != want {
		t.Errorf("Decode(%.90q, %q) = %.300v, %d, and not %d", s, known, tell(x), e, want)
	}
}

// cold is a coldStart of a device that is 3 seconds up.
func cold() api.Trap {
	return api.Trap{Community: "public", Request: 7, Uptime: 300, Id: "1.3.6.1.6.3.1.1.5.1"}
}

// full asks for an answer, and has a bind of each kind of value.
func full() api.Trap {
	return api.Trap{Community: "\x00pr\xffivate\n", Inform: true, Request: -300, Uptime: math.MaxUint32, Id: "2.999.3", Binds: []api.Bind{
		{Oid: "1.3.6.1.2.1.1.3.0", V: api.Value{Kind: api.VTicks, N: 7}},
		{Oid: "1.3.6.1.6.3.1.1.4.1.0", V: api.Value{Kind: api.VOid, S: "1.3.6"}},
		{Oid: "1.3.6.1.2.1.2.2.1.1.4294967295", V: api.Value{Kind: api.VInt, N: -1}},
		{Oid: "0.0", V: api.Value{Kind: api.VNull}},
		{Oid: "2.999", V: api.Value{Kind: api.VOctets, S: "eth\x00\xff"}},
		{Oid: "1.3", V: api.Value{Kind: api.VAddress, S: "\x7f\x00\x00\x01"}},
		{Oid: "1.3.6", V: api.Value{Kind: api.VCounter, N: math.MaxUint32}},
		{Oid: "1.3.6", V: api.Value{Kind: api.VGauge, N: 0}},
		{Oid: "1.3.6.1", V: api.Value{Kind: api.VOpaque, S: "\x9f\x78\x04abcd"}},
		{Oid: "1.3.6.1", V: value.Big(math.MaxUint64)},
	}}
}

// with is cold, with these binds.
func with(l ...api.Bind) api.Trap {
	x := cold()
	x.Binds = l
	return x
}

// asking is x, as one that asks for an answer.
func asking(x api.Trap) api.Trap {
	x.Inform = true
	return x
}

// ownBinds are the bytes of cold's own two.
const ownBinds = "\x30\x0e\x06\x08\x2b\x06\x01\x02\x01\x01\x03\x00\x43\x02\x01\x2c" +
	"\x30\x17\x06\x0a\x2b\x06\x01\x06\x03\x01\x01\x04\x01\x00\x06\x09\x2b\x06\x01\x06\x03\x01\x01\x05\x01"

// known are traps, and the bytes that their messages are known to have.
var known = []struct {
	x api.Trap
	s string
}{
	{cold(), "\x30\x41\x02\x01\x01\x04\x06public\xa7\x34\x02\x01\x07\x02\x01\x00\x02\x01\x00\x30\x29" + ownBinds},
	{asking(cold()), "\x30\x41\x02\x01\x01\x04\x06public\xa6\x34\x02\x01\x07\x02\x01\x00\x02\x01\x00\x30\x29" + ownBinds},
	{api.Trap{Community: "a", Id: "1.3"}, "\x30\x33\x02\x01\x01\x04\x01a\xa7\x2b\x02\x01\x00\x02\x01\x00\x02\x01\x00\x30\x20" +
		"\x30\x0d\x06\x08\x2b\x06\x01\x02\x01\x01\x03\x00\x43\x01\x00\x30\x0f\x06\x0a\x2b\x06\x01\x06\x03\x01\x01\x04\x01\x00\x06\x01\x2b"},
	{with(api.Bind{Oid: "1.3.6", V: api.Value{Kind: api.VInt, N: 7}}), "\x30\x4a\x02\x01\x01\x04\x06public\xa7\x3d\x02\x01\x07\x02\x01\x00\x02\x01\x00\x30\x32" + ownBinds + "\x30\x07\x06\x02\x2b\x06\x02\x01\x07"},
}

// 9.1, 9.2
func TestKnown(t *testing.T) {
	for _, y := range known {
		if e := trap.Check(y.x); e != api.OK {
			t.Errorf("%v: %d", y.x, e)
		}
		if s, e := trap.Encode(y.x); s != y.s || e != api.OK {
			t.Errorf("%v: %q, %d", y.x, s, e)
		}
		isRead(t, y.s, y.x)
		holds(t, y.x)
	}
	holds(t, full())
}

// 9.3: an answer is known by its bytes, too.
func TestKnownAnswer(t *testing.T) {
	want := "\x30\x41\x02\x01\x01\x04\x06public\xa2\x34\x02\x01\x07\x02\x01\x00\x02\x01\x00\x30\x29" + ownBinds
	if s, e := trap.Answer(asking(cold())); s != want || e != api.OK {
		t.Errorf("%q, %d", s, e)
	}
	isNot(t, want)
	if s, e := trap.Answer(cold()); s != "" || e != api.ErrNone {
		t.Errorf("%q, %d", s, e)
	}
}

// both holds x to the chapter's words, be it one that asks for an answer or not.
func both(t *testing.T, x api.Trap) {
	t.Helper()
	for _, x.Inform = range []bool{false, true} {
		holds(t, x)
	}
}

// edges are numbers at and beside each edge that a trap has, and those far off.
func edges() []int {
	all := []int{5, 300, -300, math.MaxInt, math.MinInt}
	for bits := range 63 {
		for d := -1; d <= 1; d++ {
			all = append(all, 1<<bits+d, -1<<bits+d)
		}
	}
	return all
}

// 9.1: each number of a trap, at its edges.
func TestNumbers(t *testing.T) {
	for _, n := range edges() {
		for _, x := range []api.Trap{cold(), full()} {
			x.Request = n
			both(t, x)
			x.Request, x.Uptime = 1, n
			both(t, x)
			x.Request = n
			both(t, x)
		}
	}
	for _, y := range []struct {
		request, uptime int
		want            api.Code
	}{
		{0, 0, api.OK}, {-2147483648, 0, api.OK}, {-2147483649, 0, api.ErrTrap}, {2147483647, 0, api.OK}, {2147483648, 0, api.ErrTrap},
		{0, 4294967295, api.OK}, {0, 4294967296, api.ErrTrap}, {0, -1, api.ErrTrap}, {-1, 1, api.OK}, {1, -1, api.ErrTrap},
	} {
		x := cold()
		x.Request, x.Uptime = y.request, y.uptime
		if e := trap.Check(x); e != y.want {
			t.Errorf("%v: %d", y, e)
		}
	}
}

// 9.1: which communities there may be: any bytes, from 1 to 64.
func TestCommunities(t *testing.T) {
	all := []string{"", "\xff\xfe", "Public", "public ", strings.Repeat("\xe2\x82\xac", 21), strings.Repeat("\xe2\x82\xac", 22)}
	for b := range 256 {
		all = append(all, string([]byte{byte(b)}))
	}
	for _, long := range []int{2, 63, 64, 65, 66, 127, 128, 129, 191, 192, 255, 256, 257, 320, 65535, 65536, 65537, 1 << 20} {
		all = append(all, strings.Repeat("c", long), strings.Repeat("\x00", long))
	}
	for _, s := range all {
		x := cold()
		x.Community = s
		both(t, x)
		if e := trap.Check(x); (e == api.OK) != (s != "" && len(s) <= 64) {
			t.Errorf("%.90q: %d", s, e)
		}
	}
}

// wrongNames are no identifiers' texts.
func wrongNames() []string {
	return []string{"", "1", "1.", "1.40", "0.40", "3.1", "1.03", "01.3", "1.3.", ".1.3", "1..3", "1.3.4294967296", "2.4294967216", "-1.3", "1.+3", "1.3 ", " 1.3", "1.3\x00", "\x2b\x06", "1.3.x", "1." + strings.Repeat("1.", 127) + "1", strings.Repeat("1.", 1<<16)}
}

// names are identifiers' texts.
func names() []string {
	return []string{"1.3", "0.0", "0.39", "1.39", "2.0", "2.4294967215", "1.3.4294967295", "1.3.0", "1.3.6.1.2.1.1.3.0", "1.3.6.1.6.3.1.1.4.1.0", "1." + strings.Repeat("1.", 126) + "1", "2.4294967215" + strings.Repeat(".4294967295", 126)}
}

// 9.1: which Ids there may be.
func TestIds(t *testing.T) {
	for _, s := range wrongNames() {
		x := full()
		x.Id = s
		both(t, x)
		if e := trap.Check(x); e != api.ErrTrap {
			t.Errorf("%.90q: %d", s, e)
		}
	}
	for _, s := range names() {
		x := full()
		x.Id = s
		both(t, x)
		if e := trap.Check(x); e != api.OK {
			t.Errorf("%.90q: %d", s, e)
		}
	}
}

// wrongBinds may not be.
func wrongBinds() []api.Bind {
	null := api.Value{Kind: api.VNull}
	all := []api.Bind{
		{}, {V: null}, {Oid: "1.3"}, {Oid: "1.3", V: api.Value{Kind: 3}}, {Oid: "1.3", V: api.Value{Kind: 48}}, {Oid: "1.3", V: api.Value{Kind: 67, N: -1}}, {Oid: "1.3", V: api.Value{Kind: 67, N: 1 << 32}}, {Oid: "1.3", V: api.Value{Kind: 6, S: "1"}},
		{Oid: "1.3", V: api.Value{Kind: 5, N: 1}}, {Oid: "1.3", V: api.Value{Kind: 5, S: "x"}}, {Oid: "1.3", V: api.Value{Kind: 2, N: 1 << 31}}, {Oid: "1.3", V: api.Value{Kind: 64, S: "abc"}}, {Oid: "1.3", V: api.Value{Kind: 4, S: strings.Repeat("o", 65536)}}, {Oid: "1.3.6.1.2.1.1.3.0", V: api.Value{Kind: 67, S: "x"}},
	}
	for _, s := range wrongNames() {
		all = append(all, api.Bind{Oid: s, V: null}, api.Bind{Oid: "1.3", V: api.Value{Kind: api.VOid, S: s}})
	}
	return all
}

// 9.1: a bind that may not be, at each place.
func TestWrongBinds(t *testing.T) {
	for _, b := range wrongBinds() {
		for i := range len(full().Binds) + 1 {
			x := full()
			x.Binds = slices.Insert(x.Binds, i, b)
			both(t, x)
			if e := trap.Check(x); e != api.ErrTrap {
				t.Errorf("%.90v at %d: %d", b, i, e)
			}
		}
		both(t, with(b))
	}
	for _, s := range names() {
		both(t, with(api.Bind{Oid: s, V: api.Value{Kind: api.VOid, S: s}}))
	}
}

// 9.1: how many binds there may be.
func TestManyBinds(t *testing.T) {
	for _, long := range []int{1, 2, 16, 17, 34, 4092, 4093, 4094, 4095, 4096, 4097, 5000} {
		x := with(slices.Repeat([]api.Bind{{Oid: "1.3", V: api.Value{Kind: api.VNull}}}, long)...)
		both(t, x)
		if e := trap.Check(x); (e == api.OK) != (long <= 4094) {
			t.Errorf("%d: %d", long, e)
		}
	}
}

// 9.1, 9.3: how many bytes a message may have, be they in one bind or in many.
func TestLongMessages(t *testing.T) {
	found := map[int]bool{}
	try := func(x api.Trap) {
		s, _ := plainMessage(x)
		found[len(s)] = true
		both(t, x)
	}
	for long := 65400; long <= 65535; long++ {
		try(with(api.Bind{Oid: "1.3", V: api.Value{Kind: api.VOctets, S: strings.Repeat("o", long)}}))
	}
	for long := range 64 {
		x := with(slices.Repeat([]api.Bind{{Oid: "1.3", V: api.Value{Kind: api.VOctets, S: "ninebytes"}}}, 4088)...)
		x.Community = strings.Repeat("c", long+1)
		try(x)
	}
	for long := 65525; long < 65540; long++ {
		if !found[long] {
			t.Errorf("none has %d bytes", long)
		}
	}
}

// 9.1, 9.3: traps that are far too long are refused as such, if all else is right.
func TestFarTooLong(t *testing.T) {
	one := api.Bind{Oid: "1.3", V: api.Value{Kind: api.VOctets, S: strings.Repeat("o", 65535)}}
	both(t, with(one, one))
	both(t, with(slices.Repeat([]api.Bind{one}, 200)...))
	x := asking(with(slices.Repeat([]api.Bind{one}, 4094)...))
	for _, want := range []api.Code{api.ErrLong, api.ErrTrap} {
		s, e := trap.Encode(x)
		answer, asked := trap.Answer(x)
		if s != "" || answer != "" || e != want || asked != want || (trap.Check(x) == api.OK) != (want == api.ErrLong) {
			t.Errorf("%.60q, %d, %.60q, %d, and not %d", s, e, answer, asked, want)
		}
		x.Binds[4093].Oid = "1"
	}
}

// 9.3: traps are the same, if all their parts are.
func TestSame(t *testing.T) {
	b := full().Binds
	traps := []api.Trap{{}, cold(), full(), asking(cold()), {Community: "a"}, {Community: "A"}, {Community: "a\x00"}, {Community: "b"}, {Inform: true}, {Request: 1}, {Request: -1}, {Request: 1 << 40}, {Request: 1 << 62}, {Uptime: 1}, {Uptime: -1}, {Uptime: 1 << 40}, {Uptime: 1 << 62}, {Request: 1, Uptime: 2}, {Request: 2, Uptime: 1},
		{Id: "1.3"}, {Id: "1.03"}, {Id: "1.3."}, {Id: "1.3.0"}, {Id: "a"}, {Community: "1.3"}, {Community: "1.3", Id: "a"}, {Community: "a", Id: "1.3"}, {Id: "1.3", Inform: true}, {Request: 1, Inform: true},
		{Binds: b[:1]}, {Binds: b[1:2]}, {Binds: b[:2]}, {Binds: []api.Bind{b[1], b[0]}}, {Binds: []api.Bind{b[0], b[0]}}, {Binds: b}, {Binds: b[:len(b)-1]}, {Binds: b[1:]}, {Binds: make([]api.Bind, 1)}, {Binds: make([]api.Bind, 2)}, {Inform: true, Binds: b[:1]},
		{Binds: []api.Bind{{Oid: "1.3"}}}, {Binds: []api.Bind{{Oid: "1.3", V: api.Value{Kind: 2}}}}, {Binds: []api.Bind{{Oid: "1.3", V: api.Value{Kind: 2, N: 5}}}}, {Binds: []api.Bind{{Oid: "1.3", V: api.Value{Kind: 2, S: "5"}}}}, {Binds: []api.Bind{{Oid: "1.3", V: api.Value{Kind: 4, S: "5"}}}},
		{Binds: make([]api.Bind, 5000)}, {Binds: make([]api.Bind, 5001)},
	}
	for i, x := range traps {
		for j, y := range traps {
			y.Binds = slices.Clone(y.Binds)
			if trap.Same(x, y) != (i == j) {
				t.Errorf("%.300v, %.300v: %v", tell(x), tell(y), i != j)
			}
		}
	}
}
