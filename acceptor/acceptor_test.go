package acceptor

import (
	"bytes"
	"encoding/binary"
	"fmt"
	"math"
	"math/rand"
	"slices"
	"strings"
	"testing"

	"synod/api"
	"synod/disk"
	"synod/msg"
	"synod/value"
	"synod/wal"
)

// num is a number as layer 1 writes it, worked out on its own.
func num(u uint64) []byte {
	b := bytes.TrimLeft(binary.BigEndian.AppendUint64(nil, u), "\x00")
	return append([]byte{byte(len(b))}, b...)
}

// nums is numbers, one behind the other.
func nums(us ...uint64) []byte {
	var b []byte
	for _, u := range us {
		b = append(b, num(u)...)
	}
	return b
}

// Some values, and their bytes.
var (
	noop    = api.Val{}
	stop    = api.Val{Kind: api.Stop, Next: []int{1, 2}}
	batch   = batchOf(5)
	noopB   = []byte{0, 0, 0}
	stopB   = []byte{1, 2, 0, 1, 2, 1, 1, 1, 2}
	batchB  = []byte{1, 1, 1, 1, 1, 10, 1, 4, 1, 2, 1, 4, 1, 4, 0, 1, 6, 1, 7, 0}
	highest = api.Bal{Round: api.MaxRound, Node: api.MaxNodes}
)

// batchOf is a batch of one command of a session: Seq 2, Ack 1, Put r2 = 3-4i.
func batchOf(sess int) api.Val {
	op := api.Op{Kind: api.Put, Reg: 2, Re: 3, Im: -4}
	return api.Val{Kind: api.Batch, Cmds: []api.Cmd{{Sess: sess, Seq: 2, Ack: 1, Op: op}}}
}

func bal(round, node int) api.Bal { return api.Bal{Round: round, Node: node} }

// promiseOf, voteOf and baseOf are the bytes of records.
func promiseOf(epoch, round, node uint64) []byte { return nums(1, epoch, 0, round, node) }

func voteOf(epoch, slot, round, node uint64, val []byte) []byte {
	return append(nums(2, epoch, slot, round, node), val...)
}

func baseOf(epoch, slot, round, node uint64) []byte { return nums(3, epoch, slot, round, node) }

// recsOf is records of the log with these bytes.
func recsOf(all ...[]byte) []api.Rec {
	var recs []api.Rec
	for i, b := range all {
		recs = append(recs, api.Rec{Index: i + 1, Data: b})
	}
	return recs
}

func tellVal(v api.Val) string {
	switch {
	case value.Same(v, noop):
		return "noop"
	case v.Kind == api.Stop:
		return fmt.Sprint("stop", v.Next)
	case len(v.Cmds) == 1 && value.Same(v, batchOf(v.Cmds[0].Sess)):
		return fmt.Sprint("batch", v.Cmds[0].Sess)
	}
	return fmt.Sprintf("%+v", v)
}

// tellVotes is votes as a text.
func tellVotes(vs []api.Vote) string {
	var all []string
	for _, v := range vs {
		all = append(all, fmt.Sprintf("%d:%d/%d:%s", v.Slot, v.Bal.Round, v.Bal.Node, tellVal(v.Val)))
	}
	return strings.Join(all, " ")
}

// tell is all that an acceptor knows, as a text.
func tell(a *Acceptor) string {
	p := a.Promised()
	return strings.TrimSpace(fmt.Sprintf("e%d f%d p%d/%d %s", a.Epoch(), a.Floor(), p.Round, p.Node, tellVotes(a.Votes(math.MinInt))))
}

func wantState(t *testing.T, a *Acceptor, want string) {
	t.Helper()
	if got := tell(a); got != want {
		t.Errorf("the state is %q, want %q", got, want)
	}
}

func wantErr(t *testing.T, what string, got, want api.Errno) {
	t.Helper()
	if got != want {
		t.Errorf("%s = %d, want %d", what, got, want)
	}
}

// tellMsg is a message as a text: its bytes tell all its fields, and whether it is right.
func tellMsg(m api.Msg) string {
	b, e := msg.Encode(m)
	return fmt.Sprintf("%d %x", e, b)
}

// wantMsg asks for a message, and for an error beside it.
func wantMsg(t *testing.T, what string, got api.Msg, e api.Errno, want api.Msg, wantE api.Errno) {
	t.Helper()
	if e != wantE || tellMsg(got) != tellMsg(want) {
		t.Errorf("%s = %+v, %d, want %+v, %d", what, got, e, want, wantE)
	}
	if want.Kind == api.NoMsg && fmt.Sprint(got) != fmt.Sprint(api.Msg{}) {
		t.Errorf("%s = %+v beside an error", what, got)
	}
}

// bed is an acceptor, and what it lies on.
type bed struct {
	t     *testing.T
	d     *disk.Disk
	l     *wal.Log
	a     *Acceptor
	limit int
}

// open opens the log and the acceptor.
func (b *bed) open(epoch, floor int) {
	b.t.Helper()
	l, recs, e := wal.Open(b.d, b.limit)
	if e != api.OK {
		b.t.Fatalf("wal.Open = %d", e)
	}
	b.l = l
	if b.a, e = Open(l, recs, epoch, floor); e != api.OK || b.a == nil {
		b.t.Fatalf("Open = %d", e)
	}
}

// lay is an acceptor over a log with these records, all of them safe.
func lay(t *testing.T, room, limit int, all ...[]byte) *bed {
	t.Helper()
	b := &bed{t: t, d: disk.New(room), limit: limit}
	l, _, e := wal.Open(b.d, limit)
	if e != api.OK {
		t.Fatalf("wal.Open = %d", e)
	}
	for _, data := range all {
		if _, e := l.Append(data); e != api.OK {
			t.Fatalf("wal.Append = %d", e)
		}
	}
	if e := l.Sync(); e != api.OK {
		t.Fatalf("wal.Sync = %d", e)
	}
	b.open(0, 0)
	return b
}

// safe is the records that a loss of power would leave now.
func (b *bed) safe() []api.Rec {
	b.t.Helper()
	d, e := disk.Mount(api.MaxRoom, b.d.Image())
	if e != api.OK {
		b.t.Fatalf("Mount = %d", e)
	}
	d.Crash(nil)
	_, recs, e := wal.Open(d, b.limit)
	if e != api.OK {
		b.t.Fatalf("wal.Open = %d", e)
	}
	return recs
}

// wantSafe asks for the last of the safe records, and for how many there are.
func (b *bed) wantSafe(count int, last ...[]byte) {
	b.t.Helper()
	recs := b.safe()
	if len(recs) != count {
		b.t.Errorf("%d safe records, want %d", len(recs), count)
		return
	}
	for i, want := range last {
		if got := recs[count-len(last)+i].Data; !bytes.Equal(got, want) {
			b.t.Errorf("safe record %d is %x, want %x", count-len(last)+i+1, got, want)
		}
	}
}

// wantSteps asks for the steps of the disk since the last time.
func (b *bed) wantSteps(what string, before, want int) {
	b.t.Helper()
	if got := b.d.Steps() - before; got != want {
		b.t.Errorf("%s takes %d steps, want %d", what, got, want)
	}
}

// P14.1: what stands against an Open.

func TestOpenRefused(t *testing.T) {
	l := lay(t, 1000, 100).l
	wrong := recsOf([]byte{9})
	for _, c := range []struct {
		name         string
		log          *wal.Log
		recs         []api.Rec
		epoch, floor int
		want         api.Errno
	}{
		{"no log", nil, nil, 0, 0, api.ErrArg},
		{"no log, wrong records", nil, wrong, 0, 0, api.ErrArg},
		{"epoch -1", l, nil, -1, 0, api.ErrArg},
		{"epoch -1, wrong records", l, wrong, -1, 0, api.ErrArg},
		{"the least epoch", l, nil, math.MinInt, 0, api.ErrArg},
		{"too high an epoch", l, nil, api.MaxRound + 1, 0, api.ErrArg},
		{"the highest epoch of all", l, nil, math.MaxInt, 0, api.ErrArg},
		{"floor -1", l, nil, 0, -1, api.ErrArg},
		{"the least floor", l, nil, 0, math.MinInt, api.ErrArg},
		{"too high a floor", l, nil, 0, api.MaxSlot + 1, api.ErrArg},
		{"the highest floor of all", l, wrong, 0, math.MaxInt, api.ErrArg},
		{"wrong records", l, wrong, 0, 0, api.ErrMsg},
	} {
		a, e := Open(c.log, c.recs, c.epoch, c.floor)
		wantErr(t, c.name, e, c.want)
		if a != nil {
			t.Errorf("%s: an acceptor beside an error", c.name)
		}
	}
	a, e := Open(l, nil, api.MaxRound, api.MaxSlot)
	wantErr(t, "the highest of both", e, api.OK)
	wantState(t, a, fmt.Sprintf("e%d f%d p0/0", api.MaxRound, api.MaxSlot))
}

// P14.1: what is a record, and what is none.

func TestWrongRecords(t *testing.T) {
	const slots, rounds = api.MaxSlot, api.MaxRound
	cut := func(b []byte) []byte { return b[:len(b)-1] }
	with := func(b []byte, more ...byte) []byte { return append(slices.Clone(b), more...) }
	sharp := batchOf(5)
	sharp.Cmds[0].Ack = 2
	for name, data := range map[string][]byte{
		"nothing":                       {},
		"kind 0":                        nums(0, 0, 0, 1, 1),
		"kind 0 as a base":              nums(0, 0, 1, 0, 0),
		"kind 4":                        nums(4, 0, 1, 1, 1),
		"a kind beyond all numbers":     nums(math.MaxUint64, 0, 0, 1, 1),
		"a kind in another form":        with([]byte{2, 0, 1}, nums(0, 0, 1, 1)...),
		"too high an epoch":             promiseOf(rounds+1, 1, 1),
		"a vote of too high an epoch":   voteOf(rounds+1, 1, 1, 1, noopB),
		"a base of too high an epoch":   baseOf(rounds+1, 1, 1, 1),
		"a promise with a slot":         nums(1, 0, 1, 1, 1),
		"a promise of nothing":          promiseOf(0, 0, 0),
		"a promise of round 0":          promiseOf(0, 0, 1),
		"a promise of node 0":           promiseOf(0, 1, 0),
		"a promise of too high a round": promiseOf(0, rounds+1, 1),
		"a promise of too high a node":  promiseOf(0, 1, 10),
		"a promise with a value":        with(promiseOf(0, 1, 1), noopB...),
		"a promise with a byte":         with(promiseOf(0, 1, 1), 0),
		"half a promise":                cut(promiseOf(0, 1, 1)),
		"a promise without a node":      nums(1, 0, 0, 1),
		"a vote in slot 0":              voteOf(0, 0, 1, 1, noopB),
		"a vote in too high a slot":     voteOf(0, slots+1, 1, 1, noopB),
		"a vote of no ballot":           voteOf(0, 1, 0, 0, noopB),
		"a vote of round 0":             voteOf(0, 1, 0, 1, noopB),
		"a vote of node 0":              voteOf(0, 1, 1, 0, noopB),
		"a vote of too high a round":    voteOf(0, 1, rounds+1, 1, noopB),
		"a vote of too high a node":     voteOf(0, 1, 1, 10, noopB),
		"a vote without a value":        voteOf(0, 1, 1, 1, nil),
		"a vote for half a value":       voteOf(0, 1, 1, 1, cut(stopB)),
		"a vote for more than a value":  voteOf(0, 1, 1, 1, with(stopB, 0)),
		"a vote for two values":         voteOf(0, 1, 1, 1, with(noopB, noopB...)),
		"a value of kind 3":             voteOf(0, 1, 1, 1, []byte{1, 3, 0, 0}),
		"a noop with a member":          voteOf(0, 1, 1, 1, []byte{0, 0, 1, 1, 1, 1}),
		"a batch without commands":      voteOf(0, 1, 1, 1, []byte{1, 1, 0, 0}),
		"a stop without members":        voteOf(0, 1, 1, 1, []byte{1, 2, 0, 0}),
		"a stop whose members fall":     voteOf(0, 1, 1, 1, []byte{1, 2, 0, 1, 2, 1, 2, 1, 1}),
		"a batch with a wrong command":  voteOf(0, 1, 1, 1, bytes.Replace(batchB, []byte{1, 2}, []byte{1, 4}, 1)),
		"a base in too high a slot":     baseOf(0, slots+1, 1, 1),
		"a base of round 0":             baseOf(0, 1, 0, 1),
		"a base of node 0":              baseOf(0, 1, 1, 0),
		"a base of too high a round":    baseOf(0, 1, rounds+1, 1),
		"a base of too high a node":     baseOf(0, 1, 1, 10),
		"a base with a value":           with(baseOf(0, 1, 1, 1), noopB...),
		"a base with a byte":            with(baseOf(0, 1, 0, 0), 0),
		"half a base":                   cut(baseOf(0, 1, 1, 1)),
	} {
		l := lay(t, 1000, 100).l
		right, later := promiseOf(0, 1, 1), baseOf(7, 3, 2, 2)
		for _, recs := range [][]api.Rec{recsOf(data), recsOf(right, data), recsOf(data, right), recsOf(later, data)} {
			// One that would be passed over is looked at all the same.
			if a, e := Open(l, recs, 0, 0); a != nil || e != api.ErrMsg {
				t.Errorf("%s (%x) = %v, %d, want ErrMsg", name, data, a, e)
			}
			if a, e := Open(l, recs, api.MaxRound, 0); a != nil || e != api.ErrMsg {
				t.Errorf("%s (%x) in a later epoch = %v, %d, want ErrMsg", name, data, a, e)
			}
		}
	}
	if value.Check(sharp) != api.ErrCmd {
		t.Error("the wrong command is right")
	}
}

// P14.1: the state that records make.

func TestOpen(t *testing.T) {
	const slots, rounds = api.MaxSlot, api.MaxRound
	for _, c := range []struct {
		name         string
		recs         [][]byte
		epoch, floor int
		want         string
	}{
		{"nothing", nil, 0, 0, "e0 f0 p0/0"},
		{"a promise", [][]byte{promiseOf(0, 1, 2)}, 0, 0, "e0 f0 p1/2"},
		{"a higher promise", [][]byte{promiseOf(0, 1, 2), promiseOf(0, 2, 1)}, 0, 0, "e0 f0 p2/1"},
		{"a higher node", [][]byte{promiseOf(0, 1, 2), promiseOf(0, 1, 3)}, 0, 0, "e0 f0 p1/3"},
		{"a lower promise", [][]byte{promiseOf(0, 2, 1), promiseOf(0, 1, 2)}, 0, 0, "e0 f0 p2/1"},
		{"the highest promise", [][]byte{promiseOf(rounds, rounds, 9)}, 0, 0, fmt.Sprintf("e%d f0 p%d/9", rounds, rounds)},

		{"a vote", [][]byte{voteOf(0, 3, 1, 2, stopB)}, 0, 0, "e0 f0 p1/2 3:1/2:stop[1 2]"},
		{"votes by slot", [][]byte{voteOf(0, 9, 1, 2, noopB), voteOf(0, 1, 1, 2, batchB), voteOf(0, 300, 1, 2, stopB)}, 0, 0, "e0 f0 p1/2 1:1/2:batch5 9:1/2:noop 300:1/2:stop[1 2]"},
		{"a vote in the highest slot", [][]byte{voteOf(0, slots, rounds, 9, noopB)}, 0, 0, fmt.Sprintf("e0 f0 p%d/9 %d:%d/9:noop", rounds, slots, rounds)},
		{"a vote promises its ballot", [][]byte{promiseOf(0, 1, 2), voteOf(0, 3, 2, 2, noopB)}, 0, 0, "e0 f0 p2/2 3:2/2:noop"},
		{"a vote below the promise", [][]byte{promiseOf(0, 5, 2), voteOf(0, 3, 2, 2, noopB)}, 0, 0, "e0 f0 p5/2 3:2/2:noop"},
		{"a vote of a higher ballot", [][]byte{voteOf(0, 3, 1, 2, noopB), voteOf(0, 3, 2, 1, stopB)}, 0, 0, "e0 f0 p2/1 3:2/1:stop[1 2]"},
		{"a vote of a higher node", [][]byte{voteOf(0, 3, 1, 2, noopB), voteOf(0, 3, 1, 3, stopB)}, 0, 0, "e0 f0 p1/3 3:1/3:stop[1 2]"},
		{"a vote of the same ballot", [][]byte{voteOf(0, 3, 1, 2, noopB), voteOf(0, 3, 1, 2, stopB)}, 0, 0, "e0 f0 p1/2 3:1/2:stop[1 2]"},
		{"a vote of a lower ballot", [][]byte{voteOf(0, 3, 2, 1, noopB), voteOf(0, 3, 1, 2, stopB)}, 0, 0, "e0 f0 p2/1 3:2/1:noop"},

		{"a base", [][]byte{baseOf(0, 7, 1, 2)}, 0, 0, "e0 f7 p1/2"},
		{"a base of the zero ballot", [][]byte{baseOf(0, 7, 0, 0)}, 0, 0, "e0 f7 p0/0"},
		{"a base in slot 0", [][]byte{baseOf(0, 0, 0, 0)}, 0, 0, "e0 f0 p0/0"},
		{"the highest base", [][]byte{baseOf(0, slots, rounds, 9)}, 0, 0, fmt.Sprintf("e0 f%d p%d/9", slots, rounds)},
		{"a base does not take a promise back", [][]byte{promiseOf(0, 4, 4), baseOf(0, 7, 0, 0), baseOf(0, 8, 3, 9)}, 0, 0, "e0 f8 p4/4"},
		{"a higher base", [][]byte{baseOf(0, 7, 0, 0), baseOf(0, 8, 0, 0)}, 0, 0, "e0 f8 p0/0"},
		{"a lower base", [][]byte{baseOf(0, 8, 0, 0), baseOf(0, 7, 0, 0)}, 0, 0, "e0 f8 p0/0"},
		{"votes up to a base", [][]byte{voteOf(0, 6, 1, 1, noopB), voteOf(0, 7, 1, 1, noopB), voteOf(0, 8, 1, 1, noopB), baseOf(0, 7, 0, 0)}, 0, 0, "e0 f7 p1/1 8:1/1:noop"},
		{"votes behind a base", [][]byte{baseOf(0, 7, 0, 0), voteOf(0, 6, 2, 1, noopB), voteOf(0, 7, 3, 1, noopB), voteOf(0, 8, 1, 1, noopB)}, 0, 0, "e0 f7 p3/1 8:1/1:noop"},
		{"votes far above a base", [][]byte{baseOf(0, 7, 0, 0), voteOf(0, 7+65, 2, 1, noopB), voteOf(0, slots, 1, 1, stopB)}, 0, 0, fmt.Sprintf("e0 f7 p2/1 72:2/1:noop %d:1/1:stop[1 2]", slots)},

		{"a lower epoch", [][]byte{promiseOf(2, 1, 1), promiseOf(1, 9, 9), voteOf(1, 3, 8, 8, noopB), baseOf(1, 9, 7, 7)}, 0, 0, "e2 f0 p1/1"},
		{"a higher epoch of a promise", [][]byte{baseOf(1, 9, 7, 7), voteOf(1, 12, 8, 8, noopB), promiseOf(2, 1, 1)}, 0, 0, "e2 f0 p1/1"},
		{"a higher epoch of a vote", [][]byte{baseOf(1, 9, 7, 7), voteOf(1, 12, 8, 8, noopB), voteOf(2, 3, 1, 1, stopB)}, 0, 0, "e2 f0 p1/1 3:1/1:stop[1 2]"},
		{"a higher epoch of a base", [][]byte{baseOf(1, 9, 7, 7), voteOf(1, 12, 8, 8, noopB), baseOf(2, 4, 0, 0)}, 0, 0, "e2 f4 p0/0"},
		{"epochs of the first records", [][]byte{promiseOf(rounds, 1, 1), baseOf(rounds, 4, 1, 2)}, 0, 0, fmt.Sprintf("e%d f4 p1/2", rounds)},

		{"a given floor", [][]byte{voteOf(0, 3, 1, 2, stopB), voteOf(0, 4, 1, 2, noopB)}, 0, 3, "e0 f3 p1/2 4:1/2:noop"},
		{"a given floor above all", [][]byte{voteOf(0, 3, 1, 2, stopB)}, 0, slots, fmt.Sprintf("e0 f%d p1/2", slots)},
		{"a given floor below", [][]byte{baseOf(0, 7, 1, 2), voteOf(0, 8, 1, 2, noopB)}, 0, 3, "e0 f7 p1/2 8:1/2:noop"},
		{"a given floor of the same epoch", [][]byte{baseOf(3, 7, 1, 2), voteOf(3, 9, 1, 2, noopB), voteOf(3, 8, 1, 2, noopB)}, 3, 8, "e3 f8 p1/2 9:1/2:noop"},
		{"a given epoch above", [][]byte{baseOf(3, 7, 1, 2), voteOf(3, 9, 1, 2, noopB)}, 4, 5, "e4 f5 p0/0"},
		{"a given epoch above, floor 0", [][]byte{baseOf(3, 7, 1, 2), voteOf(3, 9, 1, 2, noopB)}, 4, 0, "e4 f0 p0/0"},
		{"a given epoch below", [][]byte{baseOf(3, 7, 1, 2), voteOf(3, 9, 1, 2, noopB)}, 2, 900, "e3 f7 p1/2 9:1/2:noop"},
		{"given alone", nil, 4, 5, "e4 f5 p0/0"},
	} {
		b := lay(t, 10000, 100)
		steps := b.d.Steps()
		a, e := Open(b.l, recsOf(c.recs...), c.epoch, c.floor)
		wantErr(t, c.name, e, api.OK)
		if got := tell(a); got != c.want {
			t.Errorf("%s: the state is %q, want %q", c.name, got, c.want)
		}
		b.wantSteps(c.name, steps, 0)
	}
}

// The indices of records tell nothing.
func TestOpenLooksAtNoIndex(t *testing.T) {
	l := lay(t, 1000, 100).l
	recs := recsOf(promiseOf(0, 1, 2), voteOf(0, 3, 2, 1, noopB))
	recs[0].Index, recs[1].Index = -5, math.MinInt
	a, e := Open(l, recs, 0, 0)
	wantErr(t, "Open", e, api.OK)
	wantState(t, a, "e0 f0 p2/1 3:2/1:noop")
}

// P14.2: Prepare.

func TestPrepareRefused(t *testing.T) {
	b := lay(t, 1000, 1000, baseOf(4, 7, 5, 3), voteOf(4, 9, 2, 2, stopB))
	const state = "e4 f7 p5/3 9:2/2:stop[1 2]"
	nack := api.Msg{Kind: api.Nack, Epoch: 4, Bal: bal(5, 3)}
	var none *Acceptor
	m, e := none.Prepare(bal(1, 1), 1)
	wantMsg(t, "Prepare on nil", m, e, api.Msg{}, api.ErrArg)
	m, e = none.Prepare(bal(0, 0), 0)
	wantMsg(t, "Prepare on nil of nothing", m, e, api.Msg{}, api.ErrArg)
	steps := b.d.Steps()
	for _, c := range []struct {
		b    api.Bal
		from int
		m    api.Msg
		e    api.Errno
	}{
		{bal(6, 1), 0, api.Msg{}, api.ErrArg}, {bal(6, 1), -1, api.Msg{}, api.ErrArg}, {bal(6, 1), math.MinInt, api.Msg{}, api.ErrArg},
		{bal(6, 1), api.MaxSlot + 1, api.Msg{}, api.ErrArg}, {bal(6, 1), math.MaxInt, api.Msg{}, api.ErrArg},
		{bal(0, 0), 0, api.Msg{}, api.ErrArg}, {bal(1, 1), 0, api.Msg{}, api.ErrArg},
		{bal(0, 0), 1, api.Msg{}, api.ErrBal}, {bal(0, 1), 1, api.Msg{}, api.ErrBal}, {bal(-1, 1), 1, api.Msg{}, api.ErrBal},
		{bal(1, 0), 1, api.Msg{}, api.ErrBal}, {bal(6, 10), 1, api.Msg{}, api.ErrBal}, {bal(api.MaxRound+1, 1), 1, api.Msg{}, api.ErrBal},
		{bal(math.MaxInt, math.MaxInt), 1, api.Msg{}, api.ErrBal}, {bal(math.MinInt, math.MinInt), 1, api.Msg{}, api.ErrBal},
		{bal(1, 1), 1, nack, api.ErrOld}, {bal(4, 9), 8, nack, api.ErrOld}, {bal(5, 2), api.MaxSlot, nack, api.ErrOld},
	} {
		m, e := b.a.Prepare(c.b, c.from)
		wantMsg(t, fmt.Sprint("Prepare of ", c.b, c.from), m, e, c.m, c.e)
	}
	wantState(t, b.a, state)
	b.wantSteps("all that is refused", steps, 0)
}

func TestPrepare(t *testing.T) {
	b := lay(t, 1000, 1000)
	m, e := b.a.Prepare(bal(1, 2), 1)
	wantMsg(t, "the first", m, e, api.Msg{Kind: api.Promise, Bal: bal(1, 2), Slot: 1}, api.OK)
	b.wantSafe(1, promiseOf(0, 1, 2))

	b = lay(t, 1000, 1000, baseOf(4, 7, 5, 3), voteOf(4, 9, 2, 2, stopB), voteOf(4, 300, 3, 2, noopB), voteOf(4, 8, 5, 3, batchB))
	all := []api.Vote{{Slot: 8, Bal: bal(5, 3), Val: batch}, {Slot: 9, Bal: bal(2, 2), Val: stop}, {Slot: 300, Bal: bal(3, 2), Val: noop}}
	promise := func(b api.Bal, from int, votes []api.Vote) api.Msg {
		return api.Msg{Kind: api.Promise, Epoch: 4, Bal: b, Slot: from, Low: 7, Votes: votes}
	}
	// The promised one again: nothing is to be written.
	steps := b.d.Steps()
	for _, c := range []struct {
		from  int
		votes []api.Vote
	}{
		{1, all}, {7, all}, {8, all}, {9, all[1:]}, {10, all[2:]}, {300, all[2:]}, {301, nil}, {api.MaxSlot, nil},
	} {
		m, e := b.a.Prepare(bal(5, 3), c.from)
		wantMsg(t, fmt.Sprint("the same, from ", c.from), m, e, promise(bal(5, 3), c.from, c.votes), api.OK)
	}
	b.wantSteps("what is promised", steps, 0)
	// A higher one.
	for i, higher := range []api.Bal{bal(5, 4), bal(6, 1), highest} {
		steps := b.d.Steps()
		m, e := b.a.Prepare(higher, 9)
		wantMsg(t, "a higher one", m, e, promise(higher, 9, all[1:]), api.OK)
		b.wantSteps("a promise", steps, 2)
		b.wantSafe(5+i, promiseOf(4, uint64(higher.Round), uint64(higher.Node)))
		if b.a.Promised() != higher {
			t.Errorf("promised is %v, want %v", b.a.Promised(), higher)
		}
	}
	wantState(t, b.a, fmt.Sprintf("e4 f7 p%d/9 8:5/3:batch5 9:2/2:stop[1 2] 300:3/2:noop", api.MaxRound))
}

// Of more votes than a message can bear, the first are told.
func TestPrepareTellsTheFirstVotes(t *testing.T) {
	var recs [][]byte
	for slot := uint64(90); slot >= 11; slot-- {
		recs = append(recs, voteOf(0, slot, 1, 1, noopB))
	}
	b := lay(t, 10000, 1000, recs...)
	for _, c := range []struct{ from, first, count int }{{1, 11, 64}, {11, 11, 64}, {12, 12, 64}, {27, 27, 64}, {28, 28, 63}, {90, 90, 1}} {
		m, e := b.a.Prepare(bal(1, 1), c.from)
		if e != api.OK || len(m.Votes) != c.count {
			t.Fatalf("from %d: %d votes, %d", c.from, len(m.Votes), e)
		}
		for i, v := range m.Votes {
			if v.Slot != c.first+i {
				t.Errorf("from %d: vote %d is of slot %d", c.from, i, v.Slot)
			}
		}
		wantErr(t, "msg.Check", msg.Check(m), api.OK)
	}
}

// P14.2 to P14.5: an error of the log.

// failing are calls that write, over one state, with the records that they write.
func failing() map[string]struct {
	call func(a *Acceptor) (api.Msg, api.Errno)
	then string
	recs [][]byte
} {
	type do = struct {
		call func(a *Acceptor) (api.Msg, api.Errno)
		then string
		recs [][]byte
	}
	bare := func(e api.Errno) (api.Msg, api.Errno) { return api.Msg{}, e }
	return map[string]do{
		"Prepare": {func(a *Acceptor) (api.Msg, api.Errno) { return a.Prepare(bal(6, 1), 1) },
			"e4 f7 p6/1 8:5/3:batch5 9:2/2:stop[1 2]", [][]byte{promiseOf(4, 6, 1)}},
		"Accept": {func(a *Acceptor) (api.Msg, api.Errno) { return a.Accept(bal(6, 1), 10, noop) },
			"e4 f7 p6/1 8:5/3:batch5 9:2/2:stop[1 2] 10:6/1:noop", [][]byte{voteOf(4, 10, 6, 1, noopB)}},
		"Accept over a vote": {func(a *Acceptor) (api.Msg, api.Errno) { return a.Accept(bal(5, 3), 9, noop) },
			"e4 f7 p5/3 8:5/3:batch5 9:5/3:noop", [][]byte{voteOf(4, 9, 5, 3, noopB)}},
		"Raise": {func(a *Acceptor) (api.Msg, api.Errno) { return bare(a.Raise(8)) },
			"e4 f8 p5/3 9:2/2:stop[1 2]", [][]byte{baseOf(4, 8, 5, 3), voteOf(4, 9, 2, 2, stopB)}},
		"Enter": {func(a *Acceptor) (api.Msg, api.Errno) { return bare(a.Enter(6, 3)) },
			"e6 f3 p0/0", [][]byte{baseOf(6, 3, 0, 0)}},
	}
}

// failingBed is the state of failing.
func failingBed(t *testing.T, room int) *bed {
	t.Helper()
	return lay(t, room, 1000, baseOf(4, 7, 5, 3), voteOf(4, 9, 2, 2, stopB), voteOf(4, 8, 5, 3, batchB))
}

const failingState = "e4 f7 p5/3 8:5/3:batch5 9:2/2:stop[1 2]"

func TestThePowerFails(t *testing.T) {
	for name, c := range failing() {
		for fuse := 1; fuse <= len(c.recs)+1; fuse++ {
			b := failingBed(t, 10000)
			b.d.Fuse(fuse)
			m, e := c.call(b.a)
			wantMsg(t, fmt.Sprintf("%s with a fuse of %d", name, fuse), m, e, api.Msg{}, api.ErrDown)
			wantState(t, b.a, failingState)
			b.wantSafe(3)
			// The log is through with it, even if the power comes back.
			b.d.Crash(nil)
			m, e = c.call(b.a)
			wantMsg(t, name+" behind it", m, e, api.Msg{}, api.ErrDown)
			wantState(t, b.a, failingState)
			b.open(0, 0)
			wantState(t, b.a, failingState)
		}
		b := failingBed(t, 10000)
		b.d.Fuse(len(c.recs) + 2)
		steps := b.d.Steps()
		_, e := c.call(b.a)
		wantErr(t, name, e, api.OK)
		b.wantSteps(name, steps, len(c.recs)+1)
		b.wantSafe(3+len(c.recs), c.recs...)
		wantState(t, b.a, c.then)
		b.d.Crash(nil)
		b.open(0, 0)
		wantState(t, b.a, c.then)
	}
}

func TestNoRoom(t *testing.T) {
	for name, c := range failing() {
		used := api.MaxRoom - failingBed(t, api.MaxRoom).d.Free()
		need := 0
		for _, rec := range c.recs {
			need += 1 + 1 + len(rec) + 8 // the length, in two bytes, and the sum
		}
		b := failingBed(t, used+need-1)
		m, e := c.call(b.a)
		wantMsg(t, name+" without room", m, e, api.Msg{}, api.ErrFull)
		wantState(t, b.a, failingState)
		b.wantSafe(3)
		b.d.Crash(nil)
		b.open(0, 0)
		wantState(t, b.a, failingState)
		b = failingBed(t, used+need)
		_, e = c.call(b.a)
		wantErr(t, name+" with just the room", e, api.OK)
		wantState(t, b.a, c.then)
	}
}

// With room again, what was refused is taken.
func TestRoomAgain(t *testing.T) {
	for name, c := range failing() {
		b := failingBed(t, 3000)
		b.d.Append("x", make([]byte, b.d.Free()))
		b.d.Sync("x")
		_, e := c.call(b.a)
		wantErr(t, name+" without room", e, api.ErrFull)
		wantState(t, b.a, failingState)
		b.d.Drop("x")
		_, e = c.call(b.a)
		wantErr(t, name+" with room", e, api.OK)
		wantState(t, b.a, c.then)
		b.d.Crash(nil)
		b.open(0, 0)
		wantState(t, b.a, c.then)
	}
}

// A log that Open of layer 9 has not made takes nothing.
func TestNoLogBelow(t *testing.T) {
	for name, c := range failing() {
		for _, a := range []*Acceptor{{}, func() *Acceptor { a, _ := Open(&wal.Log{}, nil, 0, 0); return a }()} {
			if name == "Accept over a vote" {
				continue
			}
			m, e := c.call(a)
			wantMsg(t, name, m, e, api.Msg{}, api.ErrArg)
			wantState(t, a, "e0 f0 p0/0")
			if !a.Sound() {
				t.Error("no votes aren't sound")
			}
		}
	}
}

// What is written is one record a time; the log's bounds are the acceptor's.
func TestLogIsThrough(t *testing.T) {
	d, e := disk.Mount(10000, nil)
	wantErr(t, "Mount", e, api.OK)
	for i := range api.MaxAreas - 1 {
		wantErr(t, "Append", d.Append(fmt.Sprint("x", i), nil), api.OK)
	}
	b := &bed{t: t, d: d, limit: 1}
	b.open(0, 0)
	_, e = b.a.Prepare(bal(1, 1), 1)
	wantErr(t, "the first piece's record", e, api.OK)
	// There is no area for another piece.
	m, e := b.a.Accept(bal(1, 1), 1, noop)
	wantMsg(t, "Accept", m, e, api.Msg{}, api.ErrMany)
	wantErr(t, "Raise", b.a.Raise(1), api.ErrMany)
	wantErr(t, "Enter", b.a.Enter(1, 1), api.ErrMany)
	wantState(t, b.a, "e0 f0 p1/1")
}

// P14.3: Accept.

func TestAcceptRefused(t *testing.T) {
	b := lay(t, 1000, 1000, baseOf(4, 7, 5, 3), voteOf(4, 9, 5, 3, stopB))
	const state = "e4 f7 p5/3 9:5/3:stop[1 2]"
	var none *Acceptor
	m, e := none.Accept(bal(1, 1), 1, noop)
	wantMsg(t, "Accept on nil", m, e, api.Msg{}, api.ErrArg)
	m, e = none.Accept(bal(0, 0), 0, api.Val{Kind: 7})
	wantMsg(t, "Accept on nil of nothing", m, e, api.Msg{}, api.ErrArg)
	nack := api.Msg{Kind: api.Nack, Epoch: 4, Bal: bal(5, 3)}
	wrong, unset, sharp, unop := api.Val{Kind: 3}, api.Val{Kind: api.Stop, Next: []int{2, 1}}, batchOf(0), batchOf(1)
	unop.Cmds[0].Op.Reg = api.Regs
	steps := b.d.Steps()
	for _, c := range []struct {
		b    api.Bal
		slot int
		v    api.Val
		m    api.Msg
		e    api.Errno
	}{
		{bal(0, 0), 8, noop, api.Msg{}, api.ErrBal}, {bal(0, 3), 8, noop, api.Msg{}, api.ErrBal}, {bal(6, 0), 8, noop, api.Msg{}, api.ErrBal},
		{bal(6, 10), 8, noop, api.Msg{}, api.ErrBal}, {bal(api.MaxRound+1, 1), 8, noop, api.Msg{}, api.ErrBal}, {bal(-1, -1), 8, noop, api.Msg{}, api.ErrBal},
		{bal(0, 0), 0, wrong, api.Msg{}, api.ErrBal},
		{bal(6, 1), 8, wrong, api.Msg{}, api.ErrVal}, {bal(6, 1), 8, unset, api.Msg{}, api.ErrSet}, {bal(6, 1), 8, sharp, api.Msg{}, api.ErrCmd},
		{bal(6, 1), 8, unop, api.Msg{}, api.ErrOp}, {bal(1, 1), 0, wrong, api.Msg{}, api.ErrVal}, {bal(1, 1), 9, unset, api.Msg{}, api.ErrSet},
		{bal(1, 1), 8, noop, nack, api.ErrOld}, {bal(5, 2), 9, stop, nack, api.ErrOld}, {bal(4, 9), 0, noop, nack, api.ErrOld},
		{bal(4, 9), api.MaxSlot + 1, noop, nack, api.ErrOld},
		{bal(5, 3), 7, noop, api.Msg{}, api.ErrRange}, {bal(5, 3), 6, noop, api.Msg{}, api.ErrRange}, {bal(6, 3), 0, noop, api.Msg{}, api.ErrRange},
		{bal(6, 3), -1, noop, api.Msg{}, api.ErrRange}, {bal(6, 3), math.MinInt, noop, api.Msg{}, api.ErrRange},
		{bal(5, 3), 72, noop, api.Msg{}, api.ErrRange}, {bal(5, 3), api.MaxSlot, noop, api.Msg{}, api.ErrRange}, {bal(5, 3), math.MaxInt, noop, api.Msg{}, api.ErrRange},
		{bal(5, 3), 9, noop, api.Msg{}, api.ErrClash}, {bal(5, 3), 9, batch, api.Msg{}, api.ErrClash},
		{bal(5, 3), 9, api.Val{Kind: api.Stop, Next: []int{1, 3}}, api.Msg{}, api.ErrClash},
	} {
		m, e := b.a.Accept(c.b, c.slot, c.v)
		wantMsg(t, fmt.Sprint("Accept of ", c.b, c.slot, c.v), m, e, c.m, c.e)
		wantState(t, b.a, state)
	}
	b.wantSteps("all that is refused", steps, 0)
}

// The span above a floor, up to its edges.
func TestSpan(t *testing.T) {
	for _, c := range []struct{ floor, slot, most int }{
		{0, 1, 64}, {7, 8, 71}, {api.MaxSlot - 65, api.MaxSlot - 64, api.MaxSlot - 1}, {api.MaxSlot - 64, api.MaxSlot - 63, api.MaxSlot},
		{api.MaxSlot - 63, api.MaxSlot - 62, api.MaxSlot}, {api.MaxSlot - 1, api.MaxSlot, api.MaxSlot}, {api.MaxSlot, api.MaxSlot + 1, api.MaxSlot},
	} {
		for slot := c.slot - 1; slot <= c.most+1; slot++ {
			if c.slot+1 < slot && slot < c.most-1 {
				continue
			}
			b := lay(t, 1000, 1000, baseOf(0, uint64(c.floor), 0, 0))
			m, e := b.a.Accept(bal(1, 1), slot, noop)
			if slot < c.slot || slot > c.most {
				wantMsg(t, fmt.Sprint("above ", c.floor, " slot ", slot), m, e, api.Msg{}, api.ErrRange)
				wantState(t, b.a, fmt.Sprintf("e0 f%d p0/0", c.floor))
				continue
			}
			wantMsg(t, fmt.Sprint("above ", c.floor, " slot ", slot), m, e, api.Msg{Kind: api.Voted, Bal: bal(1, 1), Slot: slot}, api.OK)
			wantState(t, b.a, fmt.Sprintf("e0 f%d p1/1 %d:1/1:noop", c.floor, slot))
		}
	}
}

func TestAccept(t *testing.T) {
	b := lay(t, 1000, 1000, baseOf(4, 7, 5, 3))
	voted := func(b api.Bal, slot int, v api.Val) api.Msg {
		return api.Msg{Kind: api.Voted, Epoch: 4, Bal: b, Slot: slot, Val: v}
	}
	for i, c := range []struct {
		b    api.Bal
		slot int
		v    api.Val
		rec  []byte
		then string
	}{
		{bal(5, 3), 10, noop, voteOf(4, 10, 5, 3, noopB), "e4 f7 p5/3 10:5/3:noop"},
		{bal(5, 3), 8, stop, voteOf(4, 8, 5, 3, stopB), "e4 f7 p5/3 8:5/3:stop[1 2] 10:5/3:noop"},
		// A ballot that nobody has asked to promise is promised by the vote.
		{bal(5, 4), 71, batch, voteOf(4, 71, 5, 4, batchB), "e4 f7 p5/4 8:5/3:stop[1 2] 10:5/3:noop 71:5/4:batch5"},
		// A higher ballot's value takes the place of a lower one's, whether it is the same or another.
		{bal(6, 1), 8, stop, voteOf(4, 8, 6, 1, stopB), "e4 f7 p6/1 8:6/1:stop[1 2] 10:5/3:noop 71:5/4:batch5"},
		{highest, 10, batch, voteOf(4, 10, api.MaxRound, 9, batchB), fmt.Sprintf("e4 f7 p%d/9 8:6/1:stop[1 2] 10:%d/9:batch5 71:5/4:batch5", api.MaxRound, api.MaxRound)},
	} {
		steps := b.d.Steps()
		m, e := b.a.Accept(c.b, c.slot, c.v)
		wantMsg(t, "Accept", m, e, voted(c.b, c.slot, c.v), api.OK)
		b.wantSteps("a vote", steps, 2)
		b.wantSafe(i+2, c.rec)
		wantState(t, b.a, c.then)
		// The same once more is answered, and nothing is written.
		steps = b.d.Steps()
		m, e = b.a.Accept(c.b, c.slot, value.Clone(c.v))
		wantMsg(t, "the same", m, e, voted(c.b, c.slot, c.v), api.OK)
		b.wantSteps("the same", steps, 0)
		wantState(t, b.a, c.then)
	}
	// An older ballot of a vote is no longer taken.
	m, e := b.a.Accept(bal(6, 1), 8, stop)
	wantMsg(t, "what was voted for", m, e, api.Msg{Kind: api.Nack, Epoch: 4, Bal: highest}, api.ErrOld)
	_, e = b.a.Accept(highest, 10, batchOf(6))
	wantErr(t, "another value", e, api.ErrClash)
}

// The longest value that there is fits a record.
func TestAcceptTheLongestValue(t *testing.T) {
	c := api.Cmd{Sess: api.MaxSessNo, Seq: api.MaxSeq, Ack: api.MaxSeq - 1, Op: api.Op{Kind: api.Take, Reg: 7, To: 6, Re: -api.MaxPart, Im: -api.MaxPart}}
	v := api.Val{Kind: api.Batch, Cmds: slices.Repeat([]api.Cmd{c}, api.MaxCmds)}
	b := lay(t, api.MaxRoom, api.MaxSeg, baseOf(api.MaxRound, api.MaxSlot-64, 0, 0))
	var votes []api.Vote
	for i := range api.MaxSpan {
		slot := api.MaxSlot - 63 + i
		_, e := b.a.Accept(highest, slot, v)
		wantErr(t, "Accept", e, api.OK)
		votes = append(votes, api.Vote{Slot: slot, Bal: highest, Val: v})
	}
	b.d.Crash(nil)
	b.open(0, 0)
	m, e := b.a.Prepare(highest, 1)
	wantMsg(t, "Prepare", m, e, api.Msg{Kind: api.Promise, Epoch: api.MaxRound, Bal: highest, Slot: 1, Low: api.MaxSlot - 64, Votes: votes}, api.OK)
	if !b.a.Sound() {
		t.Error("not sound")
	}
}

// P14.4: Raise.

func TestRaiseRefused(t *testing.T) {
	var none *Acceptor
	wantErr(t, "Raise on nil", none.Raise(1), api.ErrArg)
	b := lay(t, 1000, 1000, baseOf(4, 7, 5, 3), voteOf(4, 9, 5, 3, stopB))
	steps := b.d.Steps()
	for _, floor := range []int{6, 0, -1, math.MinInt, api.MaxSlot + 1, math.MaxInt} {
		wantErr(t, fmt.Sprint("Raise to ", floor), b.a.Raise(floor), api.ErrArg)
	}
	wantErr(t, "Raise to the same", b.a.Raise(7), api.OK)
	wantState(t, b.a, "e4 f7 p5/3 9:5/3:stop[1 2]")
	b.wantSteps("what changes nothing", steps, 0)
	// The same needs no power either.
	b.d.Fuse(1)
	b.d.Append("x", nil)
	wantErr(t, "Raise to the same", b.a.Raise(7), api.OK)
	wantErr(t, "Raise to a lower one", b.a.Raise(6), api.ErrArg)
	wantErr(t, "Raise without power", b.a.Raise(8), api.ErrDown)
}

func TestRaise(t *testing.T) {
	laid := func() *bed {
		return lay(t, 10000, 1000, voteOf(4, 300, 1, 1, stopB), voteOf(4, 9, 5, 3, batchB), voteOf(4, 10, 2, 1, noopB), voteOf(4, 8, 4, 2, noopB))
	}
	v9, v10, v300 := voteOf(4, 9, 5, 3, batchB), voteOf(4, 10, 2, 1, noopB), voteOf(4, 300, 1, 1, stopB)
	for _, c := range []struct {
		floor int
		recs  [][]byte
		then  string
	}{
		{1, [][]byte{voteOf(4, 8, 4, 2, noopB), v9, v10, v300}, "e4 f1 p5/3 8:4/2:noop 9:5/3:batch5 10:2/1:noop 300:1/1:stop[1 2]"},
		{8, [][]byte{v9, v10, v300}, "e4 f8 p5/3 9:5/3:batch5 10:2/1:noop 300:1/1:stop[1 2]"},
		{9, [][]byte{v10, v300}, "e4 f9 p5/3 10:2/1:noop 300:1/1:stop[1 2]"},
		{299, [][]byte{v300}, "e4 f299 p5/3 300:1/1:stop[1 2]"},
		{300, nil, "e4 f300 p5/3"},
		{api.MaxSlot, nil, fmt.Sprintf("e4 f%d p5/3", api.MaxSlot)},
	} {
		b := laid()
		steps := b.d.Steps()
		wantErr(t, "Raise", b.a.Raise(c.floor), api.OK)
		wantState(t, b.a, c.then)
		b.wantSteps("Raise", steps, len(c.recs)+2)
		b.wantSafe(5+len(c.recs), append([][]byte{baseOf(4, uint64(c.floor), 5, 3)}, c.recs...)...)
		b.d.Crash(nil)
		b.open(0, 0)
		wantState(t, b.a, c.then)
		wantErr(t, "Raise to the same", b.a.Raise(c.floor), api.OK)
	}
	// With nothing promised the base has the zero ballot.
	b := lay(t, 1000, 1000)
	wantErr(t, "Raise", b.a.Raise(2), api.OK)
	b.wantSafe(1, baseOf(0, 2, 0, 0))
}

// In a log with a piece a record, what lies ahead of the base goes, and nothing else.
func TestRaiseTrims(t *testing.T) {
	b := lay(t, 10000, 1, promiseOf(0, 1, 1), voteOf(0, 1, 1, 1, noopB), voteOf(0, 2, 1, 1, stopB), voteOf(0, 3, 1, 1, batchB))
	wantErr(t, "Raise", b.a.Raise(1), api.OK)
	b.wantSafe(3, baseOf(0, 1, 1, 1), voteOf(0, 2, 1, 1, stopB), voteOf(0, 3, 1, 1, batchB))
	if b.l.First() != 5 || b.l.Next() != 8 || b.l.Pieces() != 3 {
		t.Errorf("the log has %d pieces, from %d to %d", b.l.Pieces(), b.l.First(), b.l.Next())
	}
	wantErr(t, "Raise", b.a.Raise(3), api.OK)
	b.wantSafe(1, baseOf(0, 3, 1, 1))
	wantErr(t, "Enter", b.a.Enter(2, 1), api.OK)
	b.wantSafe(1, baseOf(2, 1, 0, 0))
	if b.l.First() != 9 || b.l.Pieces() != 1 {
		t.Errorf("the log has %d pieces, from %d on", b.l.Pieces(), b.l.First())
	}
	// Where the pieces are longer, the one with the base stays whole.
	b = lay(t, 10000, 40, promiseOf(0, 1, 1), voteOf(0, 1, 1, 1, noopB), voteOf(0, 2, 1, 1, stopB), voteOf(0, 3, 1, 1, batchB))
	wantErr(t, "Raise", b.a.Raise(2), api.OK)
	recs := b.safe()
	if recs[0].Index > 5 || recs[0].Index < 3 {
		t.Errorf("the log begins with record %d", recs[0].Index)
	}
	b.d.Crash(nil)
	b.open(0, 0)
	wantState(t, b.a, "e0 f2 p1/1 3:1/1:batch5")
}

// An error of the Trim is the answer, but what was saved stands.
func TestTrimFails(t *testing.T) {
	for _, c := range []struct {
		name  string
		call  func(a *Acceptor) api.Errno
		saved int
		then  string
	}{
		{"Raise", func(a *Acceptor) api.Errno { return a.Raise(2) }, 2, "e0 f2 p1/1 3:1/1:batch5"},
		{"Enter", func(a *Acceptor) api.Errno { return a.Enter(3, 5) }, 1, "e3 f5 p0/0"},
	} {
		laid := func() *bed {
			return lay(t, 10000, 1, promiseOf(0, 1, 1), voteOf(0, 1, 1, 1, noopB), voteOf(0, 3, 1, 1, batchB))
		}
		// Each record begins a piece: the piece ahead is synced, a header appended and synced, and the record appended; at last it is synced.
		steps := 4*c.saved + 1
		for drop := 1; drop <= 3; drop++ {
			b := laid()
			b.d.Fuse(steps + drop)
			wantErr(t, c.name, c.call(b.a), api.ErrDown)
			wantState(t, b.a, c.then)
			b.d.Crash(nil)
			b.open(0, 0)
			wantState(t, b.a, c.then)
		}
		for _, area := range []string{"wal-000001", "wal-000002"} {
			b := laid()
			b.d.Drop(area)
			wantErr(t, c.name, c.call(b.a), api.ErrNone)
			wantState(t, b.a, c.then)
		}
		b := laid()
		b.d.Fuse(steps)
		wantErr(t, c.name, c.call(b.a), api.ErrDown)
		wantState(t, b.a, "e0 f0 p1/1 1:1/1:noop 3:1/1:batch5")
		b = laid()
		b.d.Fuse(steps + 4)
		wantErr(t, c.name, c.call(b.a), api.OK)
		wantState(t, b.a, c.then)
	}
}

// P14.5: Enter.

func TestEnterRefused(t *testing.T) {
	var none *Acceptor
	wantErr(t, "Enter on nil", none.Enter(1, 0), api.ErrArg)
	b := lay(t, 1000, 1000, baseOf(4, 7, 5, 3), voteOf(4, 9, 5, 3, stopB))
	steps := b.d.Steps()
	for _, c := range []struct{ epoch, floor int }{
		{4, 8}, {3, 8}, {0, 8}, {-1, 8}, {math.MinInt, 8}, {api.MaxRound + 1, 8}, {math.MaxInt, 8},
		{5, -1}, {5, math.MinInt}, {5, api.MaxSlot + 1}, {5, math.MaxInt}, {4, 7},
	} {
		wantErr(t, fmt.Sprint("Enter ", c), b.a.Enter(c.epoch, c.floor), api.ErrArg)
	}
	wantState(t, b.a, "e4 f7 p5/3 9:5/3:stop[1 2]")
	b.wantSteps("what is refused", steps, 0)
}

func TestEnter(t *testing.T) {
	for _, c := range []struct{ epoch, floor int }{
		{5, 8}, {5, 9}, {5, 7}, {5, 0}, {5, api.MaxSlot}, {9, 8}, {api.MaxRound, 8},
	} {
		b := lay(t, 1000, 1000, baseOf(4, 7, 5, 3), voteOf(4, 9, 5, 3, stopB))
		steps := b.d.Steps()
		wantErr(t, "Enter", b.a.Enter(c.epoch, c.floor), api.OK)
		then := fmt.Sprintf("e%d f%d p0/0", c.epoch, c.floor)
		wantState(t, b.a, then)
		b.wantSteps("Enter", steps, 2)
		b.wantSafe(3, baseOf(uint64(c.epoch), uint64(c.floor), 0, 0))
		// In the new epoch the ballots begin anew.
		m, e := b.a.Prepare(bal(1, 1), 1)
		wantMsg(t, "Prepare", m, e, api.Msg{Kind: api.Promise, Epoch: c.epoch, Bal: bal(1, 1), Slot: 1, Low: c.floor}, api.OK)
		b.d.Crash(nil)
		b.open(0, 0)
		wantState(t, b.a, fmt.Sprintf("e%d f%d p1/1", c.epoch, c.floor))
	}
}

// P14.6: what an acceptor tells.

func TestNil(t *testing.T) {
	var a *Acceptor
	if a.Epoch() != 0 || a.Floor() != 0 || a.Promised() != (api.Bal{}) || len(a.Votes(1)) != 0 || a.Sound() {
		t.Error("a nil acceptor tells something")
	}
}

func TestVotes(t *testing.T) {
	a := lay(t, 1000, 1000, voteOf(0, 9, 1, 1, noopB), voteOf(0, api.MaxSlot, 1, 1, stopB), voteOf(0, 1, 1, 2, batchB)).a
	top := fmt.Sprintf("%d:1/1:stop[1 2]", api.MaxSlot)
	for from, want := range map[int]string{
		math.MinInt: "1:1/2:batch5 9:1/1:noop " + top, 0: "1:1/2:batch5 9:1/1:noop " + top, 1: "1:1/2:batch5 9:1/1:noop " + top,
		2: "9:1/1:noop " + top, 9: "9:1/1:noop " + top, 10: top, api.MaxSlot: top, api.MaxSlot + 1: "", math.MaxInt: "",
	} {
		if got := tellVotes(a.Votes(from)); got != want {
			t.Errorf("Votes(%d) = %q, want %q", from, got, want)
		}
	}
}

func TestSound(t *testing.T) {
	for count, want := range map[uint64]bool{0: true, 1: true, 63: true, 64: true, 65: false, 200: false} {
		var recs [][]byte
		for i := range count {
			recs = append(recs, voteOf(0, 3*i+1, 1, 1, noopB))
		}
		b := lay(t, api.MaxRoom, 1000, recs...)
		if got := b.a.Sound(); got != want {
			t.Errorf("%d votes: %v, want %v", count, got, want)
		}
		if len(b.a.Votes(1)) != int(count) {
			t.Errorf("Votes tells %d of %d", len(b.a.Votes(1)), count)
		}
	}
}

// Rule 4: what is handed in is neither changed nor kept, and an answer is new memory.

// spoil changes all that a value's lists hold, and the room behind their ends.
func spoil(v api.Val) {
	for i := range v.Cmds[:cap(v.Cmds)] {
		v.Cmds[:cap(v.Cmds)][i] = api.Cmd{Sess: -1}
	}
	for i := range v.Next[:cap(v.Next)] {
		v.Next[:cap(v.Next)][i] = -1
	}
}

func TestMemory(t *testing.T) {
	b := lay(t, 10000, 1000)
	const state = "e0 f0 p1/1 1:1/1:stop[1 2] 2:1/1:batch5"
	room := []int{1, 2, 3}
	handed, cmds := api.Val{Kind: api.Stop, Next: room[:2]}, batchOf(5)
	one, _ := b.a.Accept(bal(1, 1), 1, handed)
	two, _ := b.a.Accept(bal(1, 1), 2, cmds)
	again, _ := b.a.Accept(bal(1, 1), 2, cmds)
	if tellVal(again.Val) != "batch5" {
		t.Errorf("the same again is %s", tellVal(again.Val))
	}
	for _, v := range []api.Val{one.Val, two.Val, again.Val} {
		spoil(v)
		wantState(t, b.a, state)
		if fmt.Sprint(room) != "[1 2 3]" || tellVal(cmds) != "batch5" {
			t.Error("what was handed in has changed")
		}
	}
	for _, v := range []api.Val{handed, cmds} {
		spoil(v)
		wantState(t, b.a, state)
	}
	told, _ := b.a.Prepare(bal(1, 1), 1)
	votes, other := b.a.Votes(1), b.a.Votes(1)
	for _, vs := range [][]api.Vote{told.Votes, votes} {
		for _, v := range vs {
			spoil(v.Val)
		}
		clear(vs)
		_ = append(vs[:0], api.Vote{Slot: 7})
		wantState(t, b.a, state)
	}
	if got := tellVotes(other); got != "1:1/1:stop[1 2] 2:1/1:batch5" {
		t.Errorf("one answer has changed another: %q", got)
	}
	b.open(0, 0)
	wantState(t, b.a, state)
}

func TestOpenKeepsNoRecords(t *testing.T) {
	b := lay(t, 1000, 100)
	recs := recsOf(promiseOf(0, 1, 2), voteOf(0, 3, 2, 1, batchB), voteOf(0, 4, 2, 1, stopB))
	a, _ := Open(b.l, recs, 0, 0)
	for i, want := range [][]byte{promiseOf(0, 1, 2), voteOf(0, 3, 2, 1, batchB), voteOf(0, 4, 2, 1, stopB)} {
		if !bytes.Equal(recs[i].Data, want) || recs[i].Index != i+1 {
			t.Errorf("record %d has changed", i)
		}
		clear(recs[i].Data)
	}
	clear(recs)
	wantState(t, a, "e0 f0 p2/1 3:2/1:batch5 4:2/1:stop[1 2]")
}

// Rule 6: two acceptors on two disks never meet.
func TestTwo(t *testing.T) {
	a, b := lay(t, 1000, 100), lay(t, 1000, 100)
	a.a.Accept(bal(1, 1), 1, stop)
	b.a.Prepare(bal(2, 2), 1)
	wantState(t, a.a, "e0 f0 p1/1 1:1/1:stop[1 2]")
	wantState(t, b.a, "e0 f0 p2/2")
	a.d.Fuse(1)
	_, e := a.a.Accept(bal(1, 1), 2, noop)
	wantErr(t, "the one without power", e, api.ErrDown)
	_, e = b.a.Accept(bal(2, 2), 2, noop)
	wantErr(t, "the other one", e, api.OK)
}

// P14.7: a vote that found no room, but became safe later, stands against a lower one behind it in the log.
func TestAVoteThatFoundNoRoom(t *testing.T) {
	b := lay(t, 1000, 1000, promiseOf(0, 1, 1))
	b.d.Append("x", make([]byte, b.d.Free()))
	b.d.Sync("x")
	_, e := b.a.Accept(bal(9, 9), 1, stop)
	wantErr(t, "without room", e, api.ErrFull)
	wantState(t, b.a, "e0 f0 p1/1")
	b.d.Drop("x")
	_, e = b.a.Accept(bal(1, 1), 1, noop)
	wantErr(t, "a lower one", e, api.OK)
	wantState(t, b.a, "e0 f0 p1/1 1:1/1:noop")
	b.open(0, 0)
	wantState(t, b.a, "e0 f0 p9/9 1:9/9:stop[1 2]")
}

// plain is a model of an acceptor: what one is that never loses power.
type plain struct {
	epoch, floor int
	promised     api.Bal
	votes        []api.Vote // by slot
}

func above(a, b api.Bal) bool { return a.Round > b.Round || a.Round == b.Round && a.Node > b.Node }

func (p plain) tell() string {
	return strings.TrimSpace(fmt.Sprintf("e%d f%d p%d/%d %s", p.epoch, p.floor, p.promised.Round, p.promised.Node, tellVotes(p.votes)))
}

// at is the votes from a slot on.
func (p plain) at(from int) []api.Vote {
	var vs []api.Vote
	for _, v := range p.votes {
		if v.Slot >= from {
			vs = append(vs, v)
		}
	}
	return vs
}

func (p plain) prepare(b api.Bal, from int) (plain, api.Msg, api.Errno) {
	if above(p.promised, b) {
		return p, api.Msg{Kind: api.Nack, Epoch: p.epoch, Bal: p.promised}, api.ErrOld
	}
	p.promised = b
	vs := p.at(from)
	return p, api.Msg{Kind: api.Promise, Epoch: p.epoch, Bal: b, Slot: from, Low: p.floor, Votes: vs[:min(len(vs), 64)]}, api.OK
}

func (p plain) accept(b api.Bal, slot int, v api.Val) (plain, api.Msg, api.Errno) {
	if above(p.promised, b) {
		return p, api.Msg{Kind: api.Nack, Epoch: p.epoch, Bal: p.promised}, api.ErrOld
	}
	if slot <= p.floor || slot > p.floor+64 {
		return p, api.Msg{}, api.ErrRange
	}
	p.promised = b
	var votes []api.Vote
	for _, old := range p.votes {
		if old.Slot == slot && old.Bal == b && !value.Same(old.Val, v) {
			return p, api.Msg{}, api.ErrClash
		}
		if old.Slot != slot {
			votes = append(votes, old)
		}
	}
	p.votes = append(votes, api.Vote{Slot: slot, Bal: b, Val: v})
	slices.SortFunc(p.votes, func(a, b api.Vote) int { return a.Slot - b.Slot })
	return p, api.Msg{Kind: api.Voted, Epoch: p.epoch, Bal: b, Slot: slot, Val: v}, api.OK
}

func (p plain) raise(floor int) (plain, api.Errno) {
	if floor < p.floor {
		return p, api.ErrArg
	}
	p.floor, p.votes = floor, p.at(floor+1)
	return p, api.OK
}

func (p plain) enter(epoch, floor int) (plain, api.Errno) {
	if epoch <= p.epoch {
		return p, api.ErrArg
	}
	return plain{epoch: epoch, floor: floor}, api.OK
}

// keeper holds an acceptor against the model, and remembers what it has told and what it was asked.
type keeper struct {
	bed
	rnd   *rand.Rand
	model plain
	told  plain           // of the epoch: the floor, the ballot and the votes that were answered
	most  plain           // the highest that was asked for, of each by itself
	asked map[string]bool // votes that were asked for
	clean bool            // nothing has failed since the last Open
}

func (k *keeper) bal() api.Bal { return bal(k.model.promised.Round+k.rnd.Intn(4)-1, 1+k.rnd.Intn(3)) }

func (k *keeper) val() api.Val {
	switch k.rnd.Intn(4) {
	case 0:
		return noop
	case 1:
		return stop
	}
	return batchOf(1 + k.rnd.Intn(9))
}

func key(epoch int, v api.Vote) string {
	return fmt.Sprint(epoch, " ", tellVotes([]api.Vote{v}))
}

// settle asks that the acceptor answers what the model does, or has failed and is as it was.
func (k *keeper) settle(what string, next plain, m, want api.Msg, e, wantE api.Errno) bool {
	k.t.Helper()
	// A log of short pieces can find no area for one more.
	if wantE == api.OK && (e == api.ErrFull || e == api.ErrDown || e == api.ErrMany) {
		k.clean = false
		if fmt.Sprint(m) != fmt.Sprint(api.Msg{}) {
			k.t.Fatalf("%s = %+v beside error %d", what, m, e)
		}
		// An error of a Trim comes when all is done.
		trimmed := (what == "Raise" || what == "Enter") && e == api.ErrDown && tell(k.a) == next.tell()
		if trimmed {
			k.model = next
		}
		k.same(what)
		return trimmed
	}
	if e != wantE || tellMsg(m) != tellMsg(want) {
		k.t.Fatalf("%s = %+v, %d, want %+v, %d", what, m, e, want, wantE)
	}
	k.model = next
	k.same(what)
	return e == api.OK
}

func (k *keeper) same(what string) {
	k.t.Helper()
	if tell(k.a) != k.model.tell() {
		k.t.Fatalf("behind %s the state is %q, want %q", what, tell(k.a), k.model.tell())
	}
}

func (k *keeper) prepare() {
	b, from := k.bal(), 1+k.rnd.Intn(k.model.floor+9)
	if b.Round < 1 {
		return
	}
	if above(b, k.most.promised) {
		k.most.promised = b
	}
	next, want, wantE := k.model.prepare(b, from)
	m, e := k.a.Prepare(b, from)
	if k.settle("Prepare", next, m, want, e, wantE) {
		k.told.promised = b
	}
}

func (k *keeper) accept() {
	v := api.Vote{Slot: k.model.floor + k.rnd.Intn(67), Bal: k.bal(), Val: k.val()}
	if k.rnd.Intn(3) > 0 {
		v.Slot = k.model.floor + 1 + k.rnd.Intn(5)
	}
	if v.Bal.Round < 1 {
		return
	}
	if above(v.Bal, k.most.promised) {
		k.most.promised = v.Bal
	}
	k.asked[key(k.model.epoch, v)] = true
	next, want, wantE := k.model.accept(v.Bal, v.Slot, v.Val)
	m, e := k.a.Accept(v.Bal, v.Slot, v.Val)
	if k.settle("Accept", next, m, want, e, wantE) {
		k.told, _, _ = k.told.accept(v.Bal, v.Slot, v.Val)
	}
}

func (k *keeper) raise() {
	floor := k.model.floor + k.rnd.Intn(6) - 1
	if floor < 0 {
		return
	}
	k.most.floor = max(k.most.floor, floor)
	next, wantE := k.model.raise(floor)
	if k.settle("Raise", next, api.Msg{}, api.Msg{}, k.a.Raise(floor), wantE) {
		k.told, _ = k.told.raise(floor)
	}
}

func (k *keeper) enter() {
	epoch, floor := k.model.epoch+k.rnd.Intn(3), k.rnd.Intn(30)
	if epoch > k.model.epoch {
		k.most.epoch = max(k.most.epoch, epoch)
		k.most.floor = max(k.most.floor, floor)
	}
	next, wantE := k.model.enter(epoch, floor)
	if k.settle("Enter", next, api.Msg{}, api.Msg{}, k.a.Enter(epoch, floor), wantE) {
		k.told = plain{epoch: epoch, floor: floor}
	}
}

// crash takes the power away, with anything kept of what is pending, and gives it back.
func (k *keeper) crash() {
	keep := make([]int, k.rnd.Intn(12))
	for i := range keep {
		keep[i] = k.rnd.Intn(90)
	}
	k.d.Crash(keep)
}

// reopen opens the acceptor, and asks that it knows all that it has told, and nothing that it wasn't asked.
func (k *keeper) reopen() {
	l, recs, e := wal.Open(k.d, k.limit)
	for e != api.OK {
		// Without room too: a loss of power takes the bytes that have none.
		k.crash()
		if e == api.ErrFull {
			k.d.Drop("other")
		}
		l, recs, e = wal.Open(k.d, k.limit)
	}
	k.l = l
	if k.a, e = Open(l, recs, 0, 0); e != api.OK {
		k.t.Fatalf("Open = %d", e)
	}
	if k.clean {
		k.same("a clean Open")
	}
	k.known()
	k.clean = true
	k.model = plain{epoch: k.a.Epoch(), floor: k.a.Floor(), promised: k.a.Promised(), votes: k.a.Votes(1)}
	k.told = k.model
}

func (k *keeper) known() {
	a := k.a
	if a.Epoch() < k.told.epoch || a.Epoch() > k.most.epoch || a.Floor() > k.most.floor || above(a.Promised(), k.most.promised) {
		k.t.Fatalf("the state is %q, told %q", tell(a), k.told.tell())
	}
	there := map[int]api.Vote{}
	for _, v := range a.Votes(1) {
		there[v.Slot] = v
		if !k.asked[key(a.Epoch(), v)] || v.Slot <= a.Floor() || above(v.Bal, a.Promised()) {
			k.t.Fatalf("a vote %s that wasn't asked for, or can't be; the state is %q", tellVotes([]api.Vote{v}), tell(a))
		}
	}
	if a.Epoch() > k.told.epoch {
		return
	}
	if above(k.told.promised, a.Promised()) || a.Floor() < k.told.floor {
		k.t.Fatalf("the state is %q, told %q", tell(a), k.told.tell())
	}
	for _, v := range k.told.votes {
		now, is := there[v.Slot]
		if v.Slot > a.Floor() && (!is || above(v.Bal, now.Bal) || now.Bal == v.Bal && !value.Same(now.Val, v.Val)) {
			k.t.Fatalf("the state is %q, told %q", tell(a), k.told.tell())
		}
	}
}

// step does any one thing.
func (k *keeper) step() {
	switch n := k.rnd.Intn(40); {
	case n < 8:
		k.prepare()
	case n < 24:
		k.accept()
	case n < 27:
		k.raise()
	case n < 28:
		k.enter()
	case n < 31:
		k.d.Fuse(1 + k.rnd.Intn(12))
	case n < 33:
		k.crash()
		k.reopen()
	case n < 35:
		k.reopen()
	case n < 38:
		k.d.Append("other", make([]byte, k.rnd.Intn(300)))
		k.d.Sync("other")
	default:
		k.d.Drop("other")
	}
	if k.d.Down() {
		k.crash()
		k.reopen()
	}
}

func TestLossOfPower(t *testing.T) {
	for seed := range int64(300) {
		rnd := rand.New(rand.NewSource(seed))
		k := &keeper{rnd: rnd, asked: map[string]bool{}, clean: true}
		k.bed = bed{t: t, d: disk.New(200 + rnd.Intn(3000)), limit: rnd.Intn(300)}
		k.open(0, 0)
		for range 300 {
			k.step()
		}
	}
}

// Every step of a short life fails once, with every number of bytes kept.

// life does some things as long as it can, and tells what was answered last.
func life(d *disk.Disk, limit int) plain {
	var told plain
	l, recs, e := wal.Open(d, limit)
	if e != api.OK {
		return told
	}
	a, e := Open(l, recs, 0, 0)
	if e != api.OK {
		return told
	}
	prepare := func(b api.Bal) bool {
		_, e := a.Prepare(b, 1)
		if e == api.OK {
			told, _, _ = told.prepare(b, 1)
		}
		return e == api.OK
	}
	accept := func(b api.Bal, slot int, v api.Val) bool {
		_, e := a.Accept(b, slot, v)
		if e == api.OK {
			told, _, _ = told.accept(b, slot, v)
		}
		return e == api.OK
	}
	raise := func(floor int) bool {
		e := a.Raise(floor)
		if e == api.OK {
			told, _ = told.raise(floor)
		}
		return e == api.OK
	}
	enter := func(epoch, floor int) bool {
		e := a.Enter(epoch, floor)
		if e == api.OK {
			told, _ = told.enter(epoch, floor)
		}
		return e == api.OK
	}
	_ = prepare(bal(1, 2)) && accept(bal(1, 2), 1, noop) && accept(bal(1, 2), 3, stop) && prepare(bal(2, 1)) &&
		accept(bal(2, 1), 3, batch) && raise(2) && accept(bal(3, 3), 4, noop) && enter(1, 4) && prepare(bal(1, 1)) &&
		accept(bal(1, 1), 6, stop) && raise(5) && accept(bal(1, 1), 7, noop)
	return told
}

func TestEveryStepEveryByte(t *testing.T) {
	for _, limit := range []int{1, 60, 1000} {
		whole := false
		for fuse := 1; !whole; fuse++ {
			for kept := range 40 {
				d := disk.New(10000)
				d.Fuse(fuse)
				told := life(d, limit)
				whole = !d.Down()
				d.Crash(slices.Repeat([]int{kept}, 20))
				b := &bed{t: t, d: d, limit: limit}
				b.open(0, 0)
				if lost := lacks(b.a, told); lost != "" {
					t.Fatalf("limit %d, fuse %d, kept %d: %s is lost: %q, told %q", limit, fuse, kept, lost, tell(b.a), told.tell())
				}
			}
		}
	}
}

// lacks is what was told and isn't known; nothing, if all is.
func lacks(a *Acceptor, told plain) string {
	if a.Epoch() > told.epoch {
		return ""
	}
	if a.Epoch() < told.epoch || a.Floor() < told.floor {
		return "a base"
	}
	if above(told.promised, a.Promised()) {
		return "a promise"
	}
	for _, v := range told.votes {
		now := a.Votes(v.Slot)
		if v.Slot <= a.Floor() {
			continue
		}
		if len(now) == 0 || now[0].Slot != v.Slot || above(v.Bal, now[0].Bal) || now[0].Bal == v.Bal && !value.Same(now[0].Val, v.Val) {
			return "a vote"
		}
	}
	return ""
}

// The chapter's example.

func TestExample(t *testing.T) {
	a := lay(t, 10000, 1000).a
	m, e := a.Prepare(bal(1, 2), 1)
	wantMsg(t, "the first", m, e, api.Msg{Kind: api.Promise, Bal: bal(1, 2), Slot: 1}, api.OK)
	m, e = a.Accept(bal(1, 2), 3, noop)
	wantMsg(t, "a vote", m, e, api.Msg{Kind: api.Voted, Bal: bal(1, 2), Slot: 3}, api.OK)
	m, e = a.Prepare(bal(1, 1), 1)
	wantMsg(t, "a lower one", m, e, api.Msg{Kind: api.Nack, Bal: bal(1, 2)}, api.ErrOld)
	m, e = a.Prepare(bal(2, 1), 1)
	wantMsg(t, "a higher one", m, e, api.Msg{Kind: api.Promise, Bal: bal(2, 1), Slot: 1, Votes: []api.Vote{{Slot: 3, Bal: bal(1, 2)}}}, api.OK)
}

// Whatever bytes a record has: it is none, or the only bytes of what it says, and Open makes a state that could have come about.

func FuzzOpen(f *testing.F) {
	f.Add(promiseOf(0, 1, 2), voteOf(0, 3, 1, 2, stopB), 0, 0)
	f.Add(baseOf(1, 7, 0, 0), voteOf(1, 9, 4, 4, batchB), 1, 8)
	f.Add(voteOf(2, 9, 4, 4, noopB), []byte{1, 2, 3}, 3, 1)
	f.Fuzz(func(t *testing.T, one, two []byte, epoch, floor int) {
		a, e := Open(lay(t, 1000, 100).l, recsOf(one, two), epoch, floor)
		if e != api.OK {
			if a != nil || e != api.ErrArg && e != api.ErrMsg {
				t.Fatalf("Open = %v, %d", a, e)
			}
			return
		}
		for _, b := range [][]byte{one, two} {
			if r, is := readRecord(b); !is || !bytes.Equal(r.written(), b) {
				t.Errorf("%x is read as %x", b, r.written())
			}
		}
		if !a.Sound() || a.Epoch() < epoch || a.Epoch() == epoch && a.Floor() < floor {
			t.Errorf("the state is %q", tell(a))
		}
		for _, v := range a.Votes(1) {
			if v.Slot <= a.Floor() || above(v.Bal, a.Promised()) {
				t.Errorf("the state is %q", tell(a))
			}
		}
	})
}
