package layers

// Each constant, type and call that the document lists stands here as it is
// listed: where one gets lost or turned, this file no longer compiles (a
// constant less its value is 0, the only place in an array of one).

import (
	"gong/api"
	"gong/ber"
	"gong/board"
	"gong/check"
	"gong/console"
	"gong/crc"
	"gong/disk"
	"gong/field"
	"gong/frame"
	"gong/glob"
	"gong/heap"
	"gong/hold"
	"gong/journal"
	"gong/lex"
	"gong/link"
	"gong/norm"
	"gong/octet"
	"gong/oid"
	"gong/outbox"
	"gong/parse"
	"gong/pdu"
	"gong/query"
	"gong/quote"
	"gong/record"
	"gong/script"
	"gong/spec"
	"gong/stamp"
	"gong/state"
	"gong/syslog"
	"gong/ticket"
	"gong/trap"
	"gong/utf"
	"gong/value"
	"gong/watch"
	"gong/yard"
)

// api
var (
	_ error = api.OK
	_       = [1]int{}[api.MaxBytes-(1<<16)]
	_       = [1]int{}[api.MaxItems-(1<<12)]
	_       = [1]int{}[api.MaxName-64]
	_       = [1]int{}[api.MaxText-1024]
	_       = [1]int{}[api.MaxDeep-32]
	_       = [1]int{}[api.MaxTime-(1<<61)]
	_       = [1]int{}[api.VInt-2]
	_       = [1]int{}[api.VOctets-4]
	_       = [1]int{}[api.VNull-5]
	_       = [1]int{}[api.VOid-6]
	_       = [1]int{}[api.VAddress-64]
	_       = [1]int{}[api.VCounter-65]
	_       = [1]int{}[api.VGauge-66]
	_       = [1]int{}[api.VTicks-67]
	_       = [1]int{}[api.VOpaque-68]
	_       = [1]int{}[api.VBig-70]
	_       = [1]int{}[api.FTrap-1]
	_       = [1]int{}[api.FLog-2]
	_       = [1]int{}[api.PText-1]
	_       = [1]int{}[api.PField-2]
	_       = [1]int{}[api.PTable-3]
	_       = [1]int{}[api.WPair-1]
	_       = [1]int{}[api.WSuppress-2]
	_       = [1]int{}[api.WThreshold-3]
	_       = [1]int{}[api.WAbsence-4]
	_       = [1]int{}[api.TOpen-1]
	_       = [1]int{}[api.TUpdate-2]
	_       = [1]int{}[api.TClear-3]
	_       = [1]int{}[api.TExpire-4]
	_       = [1]int{}[api.TClose-5]
	_       = [1]int{}[api.ITrap-1]
	_       = [1]int{}[api.ILog-2]
	_       = [1]int{}[api.ITick-3]
	_       = [1]int{}[api.ICommand-4]
	_       = [1]int{}[api.IAck-5]
	_       = [1]int{}[api.OK-0]
	_       = [1]int{}[api.ErrRange-1]
	_       = [1]int{}[api.ErrLong-2]
	_       = [1]int{}[api.ErrForm-3]
	_       = [1]int{}[api.ErrShape-4]
	_       = [1]int{}[api.ErrNone-5]
	_       = [1]int{}[api.ErrThere-6]
	_       = [1]int{}[api.ErrEnd-10]
	_       = [1]int{}[api.ErrStamp-30]
	_       = [1]int{}[api.ErrUtf-40]
	_       = [1]int{}[api.ErrBer-50]
	_       = [1]int{}[api.ErrDeep-51]
	_       = [1]int{}[api.ErrOid-60]
	_       = [1]int{}[api.ErrValue-70]
	_       = [1]int{}[api.ErrPdu-80]
	_       = [1]int{}[api.ErrTrap-90]
	_       = [1]int{}[api.ErrWho-91]
	_       = [1]int{}[api.ErrQuote-100]
	_       = [1]int{}[api.ErrLog-110]
	_       = [1]int{}[api.ErrFrame-120]
	_       = [1]int{}[api.ErrGlob-130]
	_       = [1]int{}[api.ErrWord-140]
	_       = [1]int{}[api.ErrRule-150]
	_       = [1]int{}[api.ErrCheck-160]
	_       = [1]int{}[api.ErrEvent-180]
	_       = [1]int{}[api.ErrFull-200]
	_       = [1]int{}[api.ErrTicket-230]
	_       = [1]int{}[api.ErrSpace-250]
	_       = [1]int{}[api.ErrDown-251]
	_       = [1]int{}[api.ErrTorn-260]
	_       = [1]int{}[api.ErrLost-270]
	_       = [1]int{}[api.ErrTime-290]
	_       = [1]int{}[api.ErrQuery-300]
	_       = [1]int{}[api.ErrLine-340]
)

// octet
var (
	_ func(n int) (string, api.Code)    = octet.Groups
	_ func(n, w int) (string, api.Code) = octet.Wide
	_ func(s string) string             = octet.Text
	_ func(s string) *octet.Reader      = octet.Read
	_ interface {
		Groups(most int) int
		Wide(w int) int
		Text(most int) string
		Bytes(n int) string
		Left() int
		Code() api.Code
		Refuse(c api.Code)
		Done() api.Code
	} = (*octet.Reader)(nil)
)

// crc
var (
	_ func(s string) int                      = crc.Sum
	_ func(sum int, s string) (int, api.Code) = crc.More
	_ func(a, b, long int) (int, api.Code)    = crc.Join
	_ func(s string) string                   = crc.Tag
	_ func(s string) (string, bool)           = crc.Open
)

// stamp
var (
	_ func(s string) (int, api.Code)          = stamp.Parse
	_ func(t int) (string, api.Code)          = stamp.Print
	_ func(t, minutes int) (string, api.Code) = stamp.Shifted
	_ func(s string) (int, api.Code)          = stamp.Span
	_ func(n int) (string, api.Code)          = stamp.Spell
)

// utf
var (
	_ func(c int) (string, api.Code)              = utf.Bytes
	_ func(s string) (c, long int, e api.Code)    = utf.First
	_ func(s string) api.Code                     = utf.Check
	_ func(s string) ([]int, api.Code)            = utf.Chars
	_ func(s string) (rest string, ok bool)       = utf.Mark
	_ func(s string) string                       = utf.Shown
	_ func(s string, most int) (string, api.Code) = utf.Cut
)

// ber
var (
	_ = struct {
		Tag  int
		Body string
	}(ber.Part{})
	_ func(s string) (p ber.Part, rest string, e api.Code) = ber.Next
	_ func(body string) ([]ber.Part, api.Code)             = ber.Parts
	_ func(tag int, body string) (string, api.Code)        = ber.Wrap
	_ func(s string) (int, api.Code)                       = ber.Deep
	_ func(s string) (string, api.Code)                    = ber.Canon
	_ func(body string) (int, api.Code)                    = ber.Number
	_ func(body string) (uint64, api.Code)                 = ber.Unsigned
	_ func(n int) string                                   = ber.PutNumber
	_ func(n uint64) string                                = ber.PutUnsigned
)

// oid
var (
	_ func(s string) ([]int, api.Code)           = oid.Arcs
	_ func(arcs []int) (string, api.Code)        = oid.Text
	_ func(s string) (string, api.Code)          = oid.Encode
	_ func(body string) (string, api.Code)       = oid.Decode
	_ func(root, s string) bool                  = oid.Within
	_ func(a, b string) bool                     = oid.Less
	_ func(s string, arc int) (string, api.Code) = oid.Child
	_ func(root, s string) (string, api.Code)    = oid.Rest
)

// value
var (
	_ func(v api.Value) api.Code             = value.Check
	_ func(v api.Value) (string, api.Code)   = value.Encode
	_ func(p ber.Part) (api.Value, api.Code) = value.Decode
	_ func(v api.Value) (string, api.Code)   = value.Show
	_ func(n uint64) api.Value               = value.Big
)

// pdu
var (
	_ = [1]int{}[pdu.Answer-162]
	_ = [1]int{}[pdu.Inform-166]
	_ = [1]int{}[pdu.Trap-167]
	_ = struct {
		Tag, Request, Status, Index int
		Binds                       []api.Bind
	}(pdu.Unit{})
	_ func(u pdu.Unit) api.Code                      = pdu.Check
	_ func(u pdu.Unit) (string, api.Code)            = pdu.Encode
	_ func(p ber.Part) (pdu.Unit, api.Code)          = pdu.Decode
	_ func(u, w pdu.Unit) bool                       = pdu.Same
	_ func(binds []api.Bind, root string) []api.Bind = pdu.Find
)

// trap
var (
	_ func(t api.Trap) api.Code                           = trap.Check
	_ func(t api.Trap) (string, api.Code)                 = trap.Encode
	_ func(s string, known []string) (api.Trap, api.Code) = trap.Decode
	_ func(t api.Trap) (string, api.Code)                 = trap.Answer
	_ func(a, b api.Trap) bool                            = trap.Same
)

// quote
var (
	_ func(s string) bool                                          = quote.IsName
	_ func(s string) string                                        = quote.Escape
	_ func(data []api.Element) api.Code                            = quote.Check
	_ func(data []api.Element) (string, api.Code)                  = quote.Print
	_ func(s string) (data []api.Element, rest string, e api.Code) = quote.Parse
	_ func(data []api.Element, id, name string) (string, bool)     = quote.Get
	_ func(a, b []api.Element) bool                                = quote.Same
)

// syslog
var (
	_ func(m api.Log) api.Code           = syslog.Check
	_ func(m api.Log) (string, api.Code) = syslog.Print
	_ func(s string) (api.Log, api.Code) = syslog.Parse
	_ func(a, b api.Log) bool            = syslog.Same
	_ func(m api.Log) int                = syslog.Priority
)

// frame
var (
	_ func(most int) (*frame.Framer, api.Code) = frame.New
	_ func(message string) (string, api.Code)  = frame.Frame
	_ interface {
		Feed(chunk string) (messages []string, e api.Code)
		Dead() bool
		Dropped() int
		Held() int
		Fork() *frame.Framer
	} = (*frame.Framer)(nil)
)

// glob
var (
	_ func(s string) (*glob.Pattern, api.Code) = glob.Parse
	_ func(pattern, s string) (bool, api.Code) = glob.Match
	_ func(s string) string                    = glob.Escape
	_ interface {
		Match(s string) bool
		Text() string
		Plain() (string, bool)
	} = (*glob.Pattern)(nil)
)

// lex
var (
	_ = [1]int{}[lex.TWord-1]
	_ = [1]int{}[lex.TFigure-2]
	_ = [1]int{}[lex.TField-3]
	_ = [1]int{}[lex.TText-4]
	_ = [1]int{}[lex.TSign-5]
	_ = struct {
		Kind int
		Text string
		Line int
	}(lex.Token{})
	_ func(s string) (l []lex.Token, line int, e api.Code) = lex.Split
	_ func(l []lex.Token) (string, api.Code)               = lex.Print
	_ func(s string) string                                = lex.Quote
)

// parse
var (
	_ func(s string) (b api.Book, line int, e api.Code) = parse.Parse
	_ func(b api.Book) (string, api.Code)               = parse.Print
	_ func(a, b api.Book) bool                          = parse.Same
)

// check
var (
	_ func(from int, name string) bool                   = check.IsField
	_ func(b api.Book) (line int, e api.Code)            = check.Check
	_ func(s string) (b api.Book, line int, e api.Code)  = check.Load
	_ func(b api.Book, table, key string) (string, bool) = check.Find
)

// field
var (
	_ = struct {
		From   int
		Source string
		T      api.Trap
		L      api.Log
	}(field.Message{})
	_ func(m field.Message, name string) (string, bool)                    = field.Get
	_ func(m field.Message, b api.Book, pieces []api.Piece) (string, bool) = field.Fill
	_ func(m field.Message, r api.Rule) bool                               = field.Tests
	_ func(m field.Message) []api.Param                                    = field.All
)

// norm
var (
	_                                                                       = [1]int{}[norm.OutEvent-1]
	_                                                                       = [1]int{}[norm.OutDrop-2]
	_                                                                       = [1]int{}[norm.OutNone-3]
	_                                                                       = [1]int{}[norm.OutBad-4]
	_ func(e api.Event) api.Code                                            = norm.Check
	_ func(e api.Event) api.Event                                           = norm.Clip
	_ func(e api.Event) (string, api.Code)                                  = norm.Encode
	_ func(s string) (api.Event, api.Code)                                  = norm.Decode
	_ func(b api.Book, m field.Message) (e api.Event, rule string, out int) = norm.Apply
)

// heap
var (
	_                                       = struct{ Id, At int }(heap.Item{})
	_ func(most int) (*heap.Heap, api.Code) = heap.New
	_ interface {
		Set(id, at int) api.Code
		Drop(id int) bool
		Get(id int) (at int, ok bool)
		First() (x heap.Item, ok bool)
		Due(now int) []heap.Item
		All() []heap.Item
		Len() int
		Fork() *heap.Heap
	} = (*heap.Heap)(nil)
)

// board
var (
	_ func(most int) (*board.Board, api.Code) = board.New
	_ func(r api.Row) api.Code                = board.Check
	_ interface {
		Raise(e api.Event, now int) (r api.Row, what int, c api.Code)
		Ack(id int, by string) (api.Row, api.Code)
		Close(id int) (api.Row, api.Code)
		Expire(now, keep int) ([]api.Row, api.Code)
		Soonest(keep int) (at int, ok bool)
		Get(id int) (api.Row, bool)
		Find(node, class, key string) (api.Row, bool)
		All() []api.Row
		Len() int
		Next() int
		Load(rows []api.Row, next int) api.Code
		Fork() *board.Board
	} = (*board.Board)(nil)
)

// hold
var (
	_ func(most int) (*hold.Hold, api.Code) = hold.New
	_ func(c api.Context) api.Code          = hold.Check
	_ func(a, b api.Context) bool           = hold.Same
	_ interface {
		Add(c api.Context) (id int, e api.Code)
		Turn(c api.Context) api.Code
		Drop(id int) (api.Context, api.Code)
		Find(watch int, node, key string) (api.Context, bool)
		First() (api.Context, bool)
		All() []api.Context
		Len() int
		Next() int
		Load(l []api.Context, next int) api.Code
		Fork() *hold.Hold
	} = (*hold.Hold)(nil)
)

// watch
var (
	_ = struct{ Suppressed, Paired, Held, Fired, Stray, Lost, Expired int }(watch.Tally{})
	_ = struct {
		What int
		Row  api.Row
	}(watch.Change{})
	_ func(b api.Book, rows, contexts, keep int) (*watch.Engine, api.Code) = watch.New
	_ interface {
		Tick(now int) ([]watch.Change, api.Code)
		Feed(e api.Event, now int) ([]watch.Change, api.Code)
		Now() int
		Tally() watch.Tally
		Board() *board.Board
		Hold() *hold.Hold
		Load(now int, t watch.Tally, rows []api.Row, row int, contexts []api.Context, context int) api.Code
		Fork() *watch.Engine
	} = (*watch.Engine)(nil)
)

// ticket
var (
	_ func(t api.Ticket) api.Code           = ticket.Check
	_ func(t api.Ticket) (string, api.Code) = ticket.Payload
	_ func(t api.Ticket) (string, api.Code) = ticket.Encode
	_ func(s string) (api.Ticket, api.Code) = ticket.Decode
	_ func(seq int) (string, api.Code)      = ticket.Ack
	_ func(s string) (seq int, e api.Code)  = ticket.Acked
)

// outbox
var (
	_ func(most, base, top int) (*outbox.Outbox, api.Code) = outbox.New
	_ interface {
		Put(what int, r api.Row) (seq int, e api.Code)
		Ack(seq int) api.Code
		Mark(seq int) api.Code
		Due(now int) ([]api.Ticket, api.Code)
		Soonest() (at int, ok bool)
		All() []api.Ticket
		Len() int
		Last() int
		Refused() int
		Marked() int
		Load(l []api.Ticket, last, refused int) api.Code
		Fork() *outbox.Outbox
	} = (*outbox.Outbox)(nil)
)

// disk
var (
	_ func(room int) (*disk.Disk, api.Code) = disk.New
	_ interface {
		Make(name string) api.Code
		Append(name, data string) api.Code
		Sync(name string) api.Code
		Rename(from, to string) api.Code
		Cut(name string, long int) api.Code
		Remove(name string) api.Code
		Read(name string) (string, api.Code)
		Safe(name string) (int, api.Code)
		Names() []string
		Used() int
		Stop(n int) api.Code
		Stopped() bool
		Crash(keep []int)
		Fork() *disk.Disk
	} = (*disk.Disk)(nil)
)

// record
var (
	_ func(payload string) (string, api.Code)           = record.Put
	_ func(s string) (payload, rest string, e api.Code) = record.Next
	_ func(s string) (payloads []string, whole int)     = record.Scan
	_ func(payload int) int                             = record.Long
)

// journal
var (
	_ func(d *disk.Disk, long int) (*journal.Journal, api.Code) = journal.Open
	_ interface {
		Snapshot() (number int, state string)
		Records() []string
		Append(payload string) (number int, e api.Code)
		Sync() api.Code
		Compact(state string) api.Code
		Next() int
		Safe() int
	} = (*journal.Journal)(nil)
)

// state
var (
	_ = struct {
		Book                                 api.Book
		Rows, Contexts, Keep, Box, Base, Top int
		Known                                []string
	}(state.Setup{})
	_ = struct{ Inputs, Events, Drops, Nones, Bads, Commands, Acks int }(state.Count{})
	_ = struct {
		Engine *watch.Engine
		Box    *outbox.Outbox
		Count  state.Count
	}(state.State{})
	_ func(s state.Setup) api.Code                               = state.Check
	_ func(s state.Setup) (*state.State, api.Code)               = state.New
	_ func(s state.Setup, bytes string) (*state.State, api.Code) = state.Decode
	_ func(a, b *state.State) bool                               = state.Same
	_ interface {
		Encode() string
		Fork() *state.State
	} = (*state.State)(nil)
)

// spec
var (
	_ func(in api.Input) api.Code                                                   = spec.Check
	_ func(in api.Input) (string, api.Code)                                         = spec.Encode
	_ func(s string) (api.Input, api.Code)                                          = spec.Decode
	_ func(s state.Setup, x *state.State, in api.Input) (answer string, e api.Code) = spec.Apply
	_ func(s state.Setup, x *state.State, inputs []string) (bad int, e api.Code)    = spec.Replay
)

// query
var (
	_ func(x *state.State, question string) ([]string, api.Code) = query.Ask
	_ func(r api.Row) string                                     = query.Line
	_ func(question string) bool                                 = query.Good
)

// console
var (
	_ = struct {
		Setup                             state.Setup
		Sync, Shot, Long, Stream, Sources int
	}(console.Config{})
	_ = struct {
		Code    api.Code
		Number  int
		Durable bool
		Reply   string
	}(console.Answer{})
	_ func(c console.Config) api.Code                                   = console.Check
	_ func(c console.Config, d *disk.Disk) (*console.Console, api.Code) = console.Open
	_ interface {
		Trap(source, bytes string, now int) console.Answer
		Log(source, bytes string, now int) console.Answer
		Stream(source, chunk string, now int) ([]console.Answer, api.Code)
		Hangup(source string)
		Tick(now int) console.Answer
		Command(words string, now int) console.Answer
		Ack(bytes string, now int) console.Answer
		Ask(question string) ([]string, api.Code)
		Send(now int) ([]string, api.Code)
		Sync() api.Code
		State() string
		ErrorsOf(source string) int
		Full() int
		Safe() int
		Down() bool
	} = (*console.Console)(nil)
)

// link
var (
	_                                       = struct{ Sent, Came, Lost, Doubled int }(link.Tally{})
	_ func(most int) (*link.Link, api.Code) = link.New
	_ interface {
		Send(letter string) api.Code
		Take(at int) (letter string, e api.Code)
		Lose(at int) api.Code
		Double(at int) api.Code
		Pass(letter string, k int) (came bool, e api.Code)
		All() []string
		Len() int
		Tally() link.Tally
		Clear()
		Fork() *link.Link
	} = (*link.Link)(nil)
)

// yard
var (
	_                                                                  = [1]int{}[yard.Out-1]
	_                                                                  = [1]int{}[yard.Back-2]
	_ func(c console.Config, room, letters int) (*yard.Yard, api.Code) = yard.New
	_ interface {
		Console() *console.Console
		Pump(now int) (sent int, e api.Code)
		Arrive(at int) api.Code
		Return(at, now int) (console.Answer, api.Code)
		Put(which int, letter string) api.Code
		Lose(which, at int) api.Code
		Double(which, at int) api.Code
		Waiting(which int) int
		Stop(n int) api.Code
		Crash(keep []int) api.Code
		Round(now, k int) (left int, e api.Code)
		Drain(now, step, k, most int) (rounds int, e api.Code)
		Seen() []int
		Payload(seq int) (string, bool)
		Desk() (got, clashes, strange int)
	} = (*yard.Yard)(nil)
)

// script
var (
	_ func(line string) []string                            = script.Words
	_ func(text string) (bad int, e api.Code)               = script.Check
	_ func(text string) (out []string, bad int, e api.Code) = script.Run
)
