package proposer

import (
	"cmp"
	"fmt"
	"math"
	"math/rand"
	"slices"
	"strings"
	"testing"

	"synod/acceptor"
	"synod/api"
	"synod/ballot"
	"synod/disk"
	"synod/learner"
	"synod/msg"
	"synod/value"
	"synod/wal"
)

// Some values.
var (
	noop = api.Val{}
	stop = api.Val{Kind: api.Stop, Next: []int{1, 2}}
	fin  = api.Val{Kind: api.Stop, Next: []int{1, 3}}
)

// batchOf is a batch of one command of a session.
func batchOf(sess int) api.Val {
	op := api.Op{Kind: api.Put, Reg: 2, Re: 3, Im: -4}
	return api.Val{Kind: api.Batch, Cmds: []api.Cmd{{Sess: sess, Seq: 2, Ack: 1, Op: op}}}
}

func bal(round, node int) api.Bal { return api.Bal{Round: round, Node: node} }

func vote(slot, round, node int, v api.Val) api.Vote {
	return api.Vote{Slot: slot, Bal: bal(round, node), Val: v}
}

func tellVal(v api.Val) string {
	switch {
	case value.Same(v, noop):
		return "noop"
	case v.Kind == api.Stop:
		return fmt.Sprint("stop", v.Next)
	case len(v.Cmds) == 1 && value.Same(v, batchOf(v.Cmds[0].Sess)):
		return fmt.Sprint("batch", v.Cmds[0].Sess)
	}
	return fmt.Sprintf("%+v", v)
}

// tellMsg is a message as a text.
func tellMsg(m api.Msg) string {
	got := ""
	switch m.Kind {
	case api.Prepare:
		got = fmt.Sprintf("prepare %d/%d from %d", m.Bal.Round, m.Bal.Node, m.Slot)
		m.Bal, m.Slot = api.Bal{}, 0
	case api.Accept:
		got = fmt.Sprintf("%d:%d/%d:%s", m.Slot, m.Bal.Round, m.Bal.Node, tellVal(m.Val))
		m.Bal, m.Slot, m.Val = api.Bal{}, 0, api.Val{}
	}
	m.Kind = 0
	if fmt.Sprint(m) != fmt.Sprint(api.Msg{}) {
		got += fmt.Sprintf(" but also %+v", m)
	}
	return got
}

func tellMsgs(ms []api.Msg) string {
	var all []string
	for _, m := range ms {
		all = append(all, tellMsg(m))
	}
	return strings.Join(all, " ")
}

// tell is all that a proposer tells, as a text.
func tell(p *Proposer) string {
	b := p.Bal()
	waiting, out := p.Waiting()
	s := fmt.Sprintf("%s %d/%d top %d waiting %d %d", [...]string{"idle", "asking", "leading"}[p.Phase()], b.Round, b.Node, p.Top(), waiting, out)
	if p.Stopping() {
		s += " stopping"
	}
	return strings.TrimSpace(s + " " + tellMsgs(p.Again()))
}

func wantState(t *testing.T, p *Proposer, want string) {
	t.Helper()
	if got := tell(p); got != want {
		t.Errorf("the state is %q, want %q", got, want)
	}
}

func wantErr(t *testing.T, what string, got, want api.Errno) {
	t.Helper()
	if got != want {
		t.Errorf("%s = %d, want %d", what, got, want)
	}
}

// wantGo asks for what a Go answers.
func wantGo(t *testing.T, p *Proposer, executed int, want string) {
	t.Helper()
	if got := tellMsgs(p.Go(executed)); got != want {
		t.Errorf("Go(%d) = %q, want %q", executed, got, want)
	}
}

// made is a proposer with what New asks for.
func made(t *testing.T, me int, members []int, window int) *Proposer {
	t.Helper()
	p := New(me, members, window)
	if p == nil {
		t.Fatalf("New(%d, %v, %d) is nil", me, members, window)
	}
	return p
}

// campaign begins a ballot that may be begun.
func campaign(t *testing.T, p *Proposer, b api.Bal, from int) {
	t.Helper()
	m, e := p.Campaign(b, from)
	wantErr(t, "Campaign", e, api.OK)
	if want := fmt.Sprintf("prepare %d/%d from %d", b.Round, b.Node, from); tellMsg(m) != want {
		t.Errorf("Campaign = %q, want %q", tellMsg(m), want)
	}
}

// promiseOf is a promise with votes.
func promiseOf(b api.Bal, from, low int, votes ...api.Vote) api.Msg {
	return api.Msg{Kind: api.Promise, Bal: b, Slot: from, Low: low, Votes: votes}
}

// promise hears a promise that is taken.
func promise(t *testing.T, p *Proposer, node int, m api.Msg, leads bool) {
	t.Helper()
	led, e := p.Promise(node, m)
	if led != leads || e != api.OK {
		t.Errorf("Promise of %d = %v, %d, want %v", node, led, e, leads)
	}
}

// refuse hears a promise that isn't taken, and leaves the state as it was.
func refuse(t *testing.T, what string, p *Proposer, node int, m api.Msg, want api.Errno) {
	t.Helper()
	before := tell(p)
	led, e := p.Promise(node, m)
	if led || e != want {
		t.Errorf("%s: Promise = %v, %d, want %d", what, led, e, want)
	}
	wantState(t, p, before)
}

// leader is node 1 of 1, 2, 3 that leads in ballot 1/1, from a slot on, without any votes told.
func leader(t *testing.T, from, window int) *Proposer {
	t.Helper()
	p := made(t, 1, []int{1, 2, 3}, window)
	campaign(t, p, bal(1, 1), from)
	promise(t, p, 1, promiseOf(bal(1, 1), from, 0), false)
	promise(t, p, 2, promiseOf(bal(1, 1), from, 0), true)
	return p
}

// submit lets values wait.
func submit(t *testing.T, p *Proposer, vs ...api.Val) {
	t.Helper()
	for _, v := range vs {
		wantErr(t, "Submit of "+tellVal(v), p.Submit(v), api.OK)
	}
}

// P16.1

func TestNew(t *testing.T) {
	for _, c := range []struct {
		me      int
		members []int
		made    bool
	}{
		{1, []int{1}, true}, {9, []int{9}, true}, {2, []int{1, 2, 3}, true}, {9, []int{3, 4, 5, 6, 7, 8, 9}, true},
		{4, []int{1, 2, 3}, false}, {0, []int{1, 2, 3}, false}, {-1, []int{1}, false}, {math.MinInt, []int{1}, false}, {math.MaxInt, []int{1}, false},
		{1, nil, false}, {0, nil, false}, {1, []int{}, false}, {0, []int{0}, false}, {10, []int{10}, false}, {-1, []int{-1}, false},
		{1, []int{1, 1}, false}, {1, []int{2, 1}, false}, {1, []int{0, 1}, false}, {1, []int{1, 10}, false}, {1, []int{1, 2, 3, 4, 5, 6, 7, 8}, false},
	} {
		if p := New(c.me, c.members, 1); (p != nil) != c.made {
			t.Errorf("New(%d, %v) is %v", c.me, c.members, p)
		} else if c.made {
			wantState(t, p, "idle 0/0 top 0 waiting 0 0")
		}
	}
}

func TestWindow(t *testing.T) {
	for window, want := range map[int]int{
		math.MinInt: 1, -1: 1, 0: 1, 1: 1, 2: 2, 8: 8, 15: 15, 16: 16, 17: 16, 1000: 16, math.MaxInt: 16,
	} {
		p := leader(t, 1, window)
		for range 20 {
			submit(t, p, noop)
		}
		if got := len(p.Go(0)); got != want || p.Top() != want {
			t.Errorf("a window of %d asks for %d slots, want %d", window, got, want)
		}
	}
}

// P16.2

func TestCampaignRefused(t *testing.T) {
	var none *Proposer
	m, e := none.Campaign(bal(1, 1), 1)
	wantErr(t, "Campaign on nil", e, api.ErrArg)
	if tellMsg(m) != "" {
		t.Errorf("Campaign on nil = %+v", m)
	}
	idle := made(t, 2, []int{1, 2, 3}, 2)
	asking := made(t, 2, []int{1, 2, 3}, 2)
	campaign(t, asking, bal(5, 2), 7)
	promise(t, asking, 1, promiseOf(bal(5, 2), 7, 0, vote(8, 4, 4, stop)), false)
	leading := made(t, 2, []int{2}, 2)
	campaign(t, leading, bal(5, 2), 7)
	promise(t, leading, 2, promiseOf(bal(5, 2), 7, 0, vote(8, 4, 4, stop)), true)
	for _, p := range []*Proposer{idle, asking, leading} {
		state := tell(p)
		for _, c := range []struct {
			b    api.Bal
			from int
			want api.Errno
		}{
			{bal(6, 2), 0, api.ErrArg}, {bal(6, 2), -1, api.ErrArg}, {bal(6, 2), math.MinInt, api.ErrArg}, {bal(6, 2), api.MaxSlot + 1, api.ErrArg},
			{bal(6, 2), math.MaxInt, api.ErrArg}, {bal(6, 1), 0, api.ErrArg}, {bal(0, 0), 0, api.ErrArg},
			{bal(0, 0), 1, api.ErrBal}, {bal(0, 2), 1, api.ErrBal}, {bal(-1, 2), 1, api.ErrBal}, {bal(6, 0), 1, api.ErrBal}, {bal(math.MinInt, 2), 1, api.ErrBal},
			{bal(api.MaxRound+1, 2), 1, api.ErrBal}, {bal(math.MaxInt, 2), 1, api.ErrBal}, {bal(6, 10), 1, api.ErrBal},
			{bal(6, 1), 1, api.ErrBal}, {bal(6, 3), 1, api.ErrBal}, {bal(6, 9), 1, api.ErrBal},
		} {
			m, e := p.Campaign(c.b, c.from)
			wantErr(t, fmt.Sprint("Campaign of ", c.b, c.from), e, c.want)
			if tellMsg(m) != "" {
				t.Errorf("Campaign = %+v beside an error", m)
			}
			wantState(t, p, state)
		}
	}
	for _, p := range []*Proposer{asking, leading} {
		state := tell(p)
		for _, b := range []api.Bal{bal(5, 2), bal(4, 2), bal(1, 2)} {
			_, e := p.Campaign(b, 7)
			wantErr(t, fmt.Sprint("Campaign of ", b), e, api.ErrBal)
			wantState(t, p, state)
		}
	}
	// What stands behind the phases: one promise, the votes told, what is to be told.
	promise(t, asking, 3, promiseOf(bal(5, 2), 7, 0), true)
	for _, p := range []*Proposer{asking, leading} {
		wantGo(t, p, 0, "7:5/2:noop 8:5/2:stop[1 2]")
	}
}

func TestCampaign(t *testing.T) {
	p := made(t, 3, []int{2, 3, 5}, 2)
	for _, c := range []struct {
		b    api.Bal
		from int
	}{
		{bal(1, 3), 1}, {bal(2, 3), 1}, {bal(7, 3), 900}, {bal(8, 3), 2}, {bal(api.MaxRound-1, 3), api.MaxSlot - 1}, {bal(api.MaxRound, 3), api.MaxSlot},
	} {
		campaign(t, p, c.b, c.from)
		wantState(t, p, fmt.Sprintf("asking %d/3 top 0 waiting 0 0 prepare %d/3 from %d", c.b.Round, c.b.Round, c.from))
		if p.Bal() != c.b {
			t.Errorf("Bal = %v, want %v", p.Bal(), c.b)
		}
	}
	_, e := p.Campaign(bal(api.MaxRound, 3), 1)
	wantErr(t, "behind the highest", e, api.ErrBal)
}

// A new ballot lets all go, whatever there was.
func TestCampaignLetsAllGo(t *testing.T) {
	// Promises and votes told.
	p := made(t, 1, []int{1, 2, 3}, 2)
	campaign(t, p, bal(1, 1), 5)
	promise(t, p, 1, promiseOf(bal(1, 1), 5, 0, vote(9, 1, 2, fin)), false)
	campaign(t, p, bal(2, 1), 6)
	promise(t, p, 2, promiseOf(bal(2, 1), 6, 0, vote(7, 1, 1, stop)), false)
	promise(t, p, 2, promiseOf(bal(2, 1), 6, 0), false)
	promise(t, p, 3, promiseOf(bal(2, 1), 6, 0), true)
	wantState(t, p, "leading 2/1 top 7 waiting 0 2 stopping")
	// What is to be told, and was told, what waits, and the Stop.
	wantGo(t, p, 0, "6:2/1:noop 7:2/1:stop[1 2]")
	campaign(t, p, bal(3, 1), 6)
	wantState(t, p, "asking 3/1 top 0 waiting 0 0 prepare 3/1 from 6")
	promise(t, p, 1, promiseOf(bal(3, 1), 6, 0), false)
	promise(t, p, 3, promiseOf(bal(3, 1), 6, 0, vote(6, 1, 1, batchOf(1))), true)
	submit(t, p, batchOf(2), stop)
	wantState(t, p, "leading 3/1 top 6 waiting 2 1 stopping")
	campaign(t, p, bal(4, 1), 3)
	wantState(t, p, "asking 4/1 top 0 waiting 0 0 prepare 4/1 from 3")
	promise(t, p, 1, promiseOf(bal(4, 1), 3, 0), false)
	promise(t, p, 2, promiseOf(bal(4, 1), 3, 0), true)
	wantState(t, p, "leading 4/1 top 2 waiting 0 0")
	wantGo(t, p, 100, "")
	submit(t, p, batchOf(3))
	wantGo(t, p, 100, "3:4/1:batch3")
}

// P16.3: what stands against a promise.

func TestPromiseRefused(t *testing.T) {
	right := promiseOf(bal(5, 2), 7, 6, vote(7, 4, 4, stop), vote(70, 5, 2, noop))
	wrong := map[string]func(m *api.Msg){
		"no kind":                  func(m *api.Msg) { m.Kind = api.NoMsg },
		"a kind above all":         func(m *api.Msg) { m.Kind = 15 },
		"a wrong From":             func(m *api.Msg) { m.From = 10 },
		"a wrong To":               func(m *api.Msg) { m.To = -1 },
		"a wrong Epoch":            func(m *api.Msg) { m.Epoch = -1 },
		"slot 0":                   func(m *api.Msg) { m.Slot = 0 },
		"a wrong Low":              func(m *api.Msg) { m.Low = -1 },
		"too high a Low":           func(m *api.Msg) { m.Low = api.MaxSlot + 1 },
		"a Time":                   func(m *api.Msg) { m.Time = 1 },
		"a value":                  func(m *api.Msg) { m.Val = stop },
		"data":                     func(m *api.Msg) { m.Data = []byte{1} },
		"no ballot":                func(m *api.Msg) { m.Bal = api.Bal{} },
		"a vote below the slot":    func(m *api.Msg) { m.Votes[0].Slot = 6 },
		"votes that fall":          func(m *api.Msg) { m.Votes[1].Slot = 7 },
		"a vote of no ballot":      func(m *api.Msg) { m.Votes[1].Bal = api.Bal{} },
		"a vote for no value":      func(m *api.Msg) { m.Votes[0].Val = api.Val{Kind: 3} },
		"a vote for a wrong Stop":  func(m *api.Msg) { m.Votes[0].Val = api.Val{Kind: api.Stop} },
		"votes above the span too": func(m *api.Msg) { m.Votes[1].Slot, m.Votes[0].Bal.Node = 71, 10 },
	}
	kinds := []api.Msg{
		{Kind: api.Prepare, Bal: bal(5, 2), Slot: 7}, {Kind: api.Nack, Bal: bal(5, 2)}, {Kind: api.Accept, Bal: bal(5, 2), Slot: 7},
		{Kind: api.Voted, Bal: bal(5, 2), Slot: 7}, {Kind: api.Beat, Bal: bal(5, 2), Slot: 7}, {Kind: api.Grant, Bal: bal(5, 2)}, {Kind: api.Want, Slot: 7},
		{Kind: api.Have, Slot: 7}, {Kind: api.Offer, Slot: 7}, {Kind: api.Pull, Slot: 7}, {Kind: api.Part, Slot: 7},
	}
	with := func(change func(m *api.Msg)) api.Msg {
		m := msg.Clone(right)
		change(&m)
		return m
	}
	idle := made(t, 2, []int{1, 2, 3}, 2)
	asking := made(t, 2, []int{1, 2, 3}, 2)
	campaign(t, asking, bal(5, 2), 7)
	leading := made(t, 2, []int{2}, 2)
	campaign(t, leading, bal(5, 2), 7)
	promise(t, leading, 2, right, true)
	var none *Proposer
	for _, p := range []*Proposer{none, idle, asking, leading} {
		for name, change := range wrong {
			for _, node := range []int{2, 4} {
				refuse(t, name, p, node, with(change), api.ErrArg)
			}
		}
		for _, m := range kinds {
			wantErr(t, "the other message", msg.Check(m), api.OK)
			refuse(t, fmt.Sprint("kind ", m.Kind), p, 2, m, api.ErrArg)
		}
	}
	for _, node := range []int{2, 0} {
		refuse(t, "nil", none, node, right, api.ErrArg)
		refuse(t, "idle", idle, node, right, api.ErrOld)
		refuse(t, "leading", leading, node, right, api.ErrOld)
		// What is old is so ahead of all that may be wrong with it otherwise.
		for _, change := range []func(m *api.Msg){
			func(m *api.Msg) { m.Bal = bal(4, 2) }, func(m *api.Msg) { m.Bal = bal(5, 1) }, func(m *api.Msg) { m.Bal = bal(5, 3) }, func(m *api.Msg) { m.Bal = bal(6, 2) },
			func(m *api.Msg) { m.Slot = 6 }, func(m *api.Msg) { m.Slot, m.Votes = 8, nil }, func(m *api.Msg) { m.Slot, m.Votes[1].Slot, m.Low = 6, 71, 900 },
		} {
			refuse(t, "another ballot or slot", asking, node, with(change), api.ErrOld)
		}
	}
	for _, node := range []int{0, -1, 4, 9, 10, math.MinInt, math.MaxInt} {
		refuse(t, "a stranger", asking, node, right, api.ErrSet)
		refuse(t, "a stranger far away", asking, node, with(func(m *api.Msg) { m.Votes[1].Slot, m.Low = 71, 900 }), api.ErrSet)
	}
	refuse(t, "a vote above the span", asking, 1, with(func(m *api.Msg) { m.Votes[1].Slot = 71 }), api.ErrRange)
	refuse(t, "a vote far above the span", asking, 1, with(func(m *api.Msg) { m.Votes[1].Slot = api.MaxSlot }), api.ErrRange)
	refuse(t, "votes above the span", asking, 1, with(func(m *api.Msg) { m.Votes[0].Slot, m.Votes[1].Slot = 71, 72 }), api.ErrRange)
	refuse(t, "a vote above the span, from behind", asking, 1, with(func(m *api.Msg) { m.Votes[1].Slot, m.Low = 71, 7 }), api.ErrRange)
	// Nothing of all that was heard: no node, and no vote.
	promise(t, asking, 1, promiseOf(bal(5, 2), 7, 0), false)
	promise(t, asking, 3, promiseOf(bal(5, 2), 7, 0), true)
	wantState(t, asking, "leading 5/2 top 6 waiting 0 0")
}

// The span above the first slot, up to its edges.
func TestSpan(t *testing.T) {
	for _, c := range []struct{ from, most int }{
		{1, 64}, {7, 70}, {api.MaxSlot - 64, api.MaxSlot - 1}, {api.MaxSlot - 63, api.MaxSlot}, {api.MaxSlot - 1, api.MaxSlot}, {api.MaxSlot, api.MaxSlot},
	} {
		p := made(t, 1, []int{1}, 2)
		campaign(t, p, bal(1, 1), c.from)
		want := api.ErrRange
		if c.most == api.MaxSlot {
			want = api.ErrArg
		}
		refuse(t, "above the span", p, 1, promiseOf(bal(1, 1), c.from, 0, vote(c.most+1, 1, 1, stop)), want)
		promise(t, p, 1, promiseOf(bal(1, 1), c.from, 0, vote(c.most, 1, 1, stop)), true)
		ms := p.Go(0)
		if p.Top() != c.most || len(ms) != c.most-c.from+1 {
			t.Fatalf("from %d: Top = %d, Go answers %d", c.from, p.Top(), len(ms))
		}
		for i, m := range ms {
			if m.Slot != c.from+i || (m.Val.Kind == api.Stop) != (m.Slot == c.most) {
				t.Errorf("from %d: message %d is %s", c.from, i, tellMsg(m))
			}
		}
	}
}

// One whose floor is too high makes it stand down.
func TestBehind(t *testing.T) {
	for _, c := range []struct {
		low    int
		behind bool
	}{{0, false}, {6, false}, {7, true}, {8, true}, {api.MaxSlot, true}} {
		p := made(t, 2, []int{1, 2, 3}, 2)
		campaign(t, p, bal(5, 2), 7)
		promise(t, p, 1, promiseOf(bal(5, 2), 7, 6, vote(9, 4, 4, stop)), false)
		led, e := p.Promise(3, promiseOf(bal(5, 2), 7, c.low, vote(8, 5, 2, fin)))
		if !c.behind {
			wantErr(t, fmt.Sprint("Low ", c.low), e, api.OK)
			wantState(t, p, "leading 5/2 top 9 waiting 0 3 stopping")
			continue
		}
		wantErr(t, fmt.Sprint("Low ", c.low), e, api.ErrBehind)
		if led {
			t.Error("it leads beside an error")
		}
		wantState(t, p, "idle 5/2 top 0 waiting 0 0")
		refuse(t, "behind it", p, 3, promiseOf(bal(5, 2), 7, 0), api.ErrOld)
		_, e = p.Campaign(bal(5, 2), 9)
		wantErr(t, "the same ballot", e, api.ErrBal)
		campaign(t, p, bal(6, 2), 7)
		promise(t, p, 2, promiseOf(bal(6, 2), 7, 0), false)
		promise(t, p, 3, promiseOf(bal(6, 2), 7, 0), true)
		wantState(t, p, "leading 6/2 top 6 waiting 0 0")
	}
}

// How many members make a leader, in every set of them that promises.
func TestQuorums(t *testing.T) {
	all := []int{2, 3, 4, 5, 7, 8, 9}
	for size := 1; size <= 7; size++ {
		for bits := range 1 << size {
			p := made(t, 2, all[:size], 2)
			campaign(t, p, bal(1, 2), 1)
			count := 0
			for i := range size {
				if bits>>i&1 == 0 || 2*count > size {
					continue
				}
				count++
				promise(t, p, all[i], promiseOf(bal(1, 2), 1, 0), 2*count > size)
				if 2*count <= size { // a second time counts for nothing
					promise(t, p, all[i], promiseOf(bal(1, 2), 1, 0), false)
				}
			}
			if leads := p.Phase() == Leading; leads != (2*count > size) {
				t.Errorf("of %d members promise %b: leading %v", size, bits, leads)
			}
		}
	}
}

// A node that promises again and again is kept once.
func TestPromiseAgain(t *testing.T) {
	p := made(t, 2, []int{1, 2, 3, 4, 5}, 2)
	campaign(t, p, bal(1, 2), 1)
	for range 100 {
		for _, node := range []int{1, 3} {
			promise(t, p, node, promiseOf(bal(1, 2), 1, 0), false)
		}
	}
	if len(p.promised) != 2 {
		t.Errorf("%d promises are kept", len(p.promised))
	}
	promise(t, p, 5, promiseOf(bal(1, 2), 1, 0), true)
	if p.promised != nil || p.told != nil {
		t.Error("promises are kept by a leader")
	}
}

// P16.3: which values a leader asks for.
func TestAdopt(t *testing.T) {
	type votes = []api.Vote
	for _, c := range []struct {
		name string
		from int
		told []votes // by the members 1, 2, 3 of five, perhaps again and again
		who  []int
		want string // what Go answers, without the ballots
	}{
		{"nothing", 5, []votes{{}, {}, {}}, []int{1, 2, 3}, ""},
		{"one vote", 5, []votes{{}, {vote(5, 1, 1, stop)}, {}}, []int{1, 2, 3}, "5:stop[1 2]"},
		{"a vote of the last one", 5, []votes{{}, {}, {vote(6, 1, 1, stop)}}, []int{1, 2, 3}, "5:noop 6:stop[1 2]"},
		{"gaps", 5, []votes{{vote(9, 1, 1, stop)}, {vote(7, 1, 1, batchOf(7))}, {}}, []int{1, 2, 3}, "5:noop 6:noop 7:batch7 8:noop 9:stop[1 2]"},
		{"votes for Noops", 5, []votes{{vote(7, 1, 1, noop)}, {}, {vote(5, 1, 1, noop)}}, []int{1, 2, 3}, "5:noop 6:noop 7:noop"},
		{"many of one", 5, []votes{{vote(5, 1, 1, batchOf(1)), vote(6, 2, 2, batchOf(2)), vote(8, 1, 1, batchOf(3))}, {}, {}}, []int{1, 2, 3}, "5:batch1 6:batch2 7:noop 8:batch3"},
		{"the higher round", 5, []votes{{vote(5, 1, 9, stop)}, {vote(5, 2, 1, batchOf(1))}, {vote(5, 1, 8, fin)}}, []int{1, 2, 3}, "5:batch1"},
		{"the higher round first", 5, []votes{{vote(5, 3, 1, stop)}, {vote(5, 2, 1, batchOf(1))}, {vote(5, 1, 8, fin)}}, []int{1, 2, 3}, "5:stop[1 2]"},
		{"the higher round last", 5, []votes{{vote(5, 1, 1, stop)}, {vote(5, 2, 1, batchOf(1))}, {vote(5, 3, 1, fin)}}, []int{1, 2, 3}, "5:stop[1 3]"},
		{"the higher node", 5, []votes{{vote(5, 2, 1, stop)}, {vote(5, 2, 3, batchOf(1))}, {vote(5, 2, 2, fin)}}, []int{1, 2, 3}, "5:batch1"},
		{"a Noop of a higher ballot", 5, []votes{{vote(5, 2, 1, stop)}, {vote(5, 3, 1, noop)}, {vote(5, 1, 1, fin)}}, []int{1, 2, 3}, "5:noop"},
		{"of one ballot the first", 5, []votes{{vote(5, 2, 1, stop)}, {vote(5, 2, 1, batchOf(1))}, {vote(5, 2, 1, fin)}}, []int{1, 2, 3}, "5:stop[1 2]"},
		{"of each slot by itself", 5, []votes{{vote(5, 1, 1, stop), vote(6, 4, 1, batchOf(1))}, {vote(5, 2, 1, batchOf(2)), vote(6, 3, 1, fin)}, {}}, []int{1, 2, 3}, "5:batch2 6:batch1"},
		{"a node that tells more later", 5, []votes{{}, {vote(6, 2, 1, stop)}, {vote(5, 1, 1, fin)}, {}}, []int{1, 1, 2, 3}, "5:stop[1 3] 6:stop[1 2]"},
		{"a node that tells less later", 5, []votes{{vote(6, 2, 1, stop)}, {}, {}, {}}, []int{1, 1, 2, 3}, "5:noop 6:stop[1 2]"},
		{"votes of a higher ballot than its own", 5, []votes{{vote(5, 9, 9, stop)}, {vote(5, 8, 8, fin)}, {}}, []int{1, 2, 3}, "5:stop[1 2]"},
		{"the highest slots", api.MaxSlot - 1, []votes{{vote(api.MaxSlot, 1, 1, stop)}, {}, {}}, []int{1, 2, 3}, fmt.Sprintf("%d:noop %d:stop[1 2]", api.MaxSlot-1, api.MaxSlot)},
	} {
		p := made(t, 4, []int{1, 2, 3, 4, 5}, 1)
		campaign(t, p, bal(7, 4), c.from)
		for i, vs := range c.told {
			promise(t, p, c.who[i], promiseOf(bal(7, 4), c.from, c.from-1, vs...), i == len(c.told)-1)
		}
		want := strings.ReplaceAll(c.want, ":", ":7/4:")
		count := len(strings.Fields(strings.ReplaceAll(want, "[1 ", "[1,")))
		top := fmt.Sprintf("leading 7/4 top %d waiting 0 %d", c.from-1+count, count)
		if strings.Contains(want, "stop") {
			top += " stopping"
		}
		if got := tell(p); got != top {
			t.Errorf("%s: the state is %q, want %q", c.name, got, top)
		}
		if got := tellMsgs(p.Go(math.MinInt)); got != want {
			t.Errorf("%s: Go = %q, want %q", c.name, got, want)
		}
	}
}

// The head of a promise is not looked at, beyond its being right.
func TestPromiseHead(t *testing.T) {
	p := made(t, 1, []int{1, 2, 3}, 1)
	campaign(t, p, bal(1, 1), 1)
	m := promiseOf(bal(1, 1), 1, 0)
	m.From, m.To, m.Epoch = 9, 8, api.MaxRound
	promise(t, p, 2, m, false)
	promise(t, p, 3, m, true)
}

// P16.4

func TestSubmitRefused(t *testing.T) {
	sharp, unop := batchOf(1), batchOf(1)
	sharp.Cmds[0].Ack, unop.Cmds[0].Op.Reg = 2, api.Regs
	idle := made(t, 1, []int{1, 2, 3}, 2)
	asking := made(t, 1, []int{1, 2, 3}, 2)
	campaign(t, asking, bal(1, 1), 1)
	full := leader(t, 1, 2)
	for range 32 {
		submit(t, full, batchOf(1))
	}
	stopping := leader(t, 1, 2)
	submit(t, stopping, stop)
	var none *Proposer
	for _, c := range []struct {
		name string
		p    *Proposer
		want api.Errno // for a right value
	}{{"nil", none, api.ErrArg}, {"idle", idle, api.ErrLeader}, {"asking", asking, api.ErrLeader}, {"full", full, api.ErrQueue}, {"stopping", stopping, api.ErrQueue}} {
		state := tell(c.p)
		for _, v := range []api.Val{noop, batchOf(1), stop} {
			wantErr(t, c.name+": Submit of "+tellVal(v), c.p.Submit(v), c.want)
		}
		for _, wrong := range []struct {
			v    api.Val
			want api.Errno
		}{
			{api.Val{Kind: 3}, api.ErrVal}, {api.Val{Kind: api.Batch}, api.ErrVal}, {api.Val{Next: []int{1}}, api.ErrVal},
			{api.Val{Kind: api.Stop}, api.ErrSet}, {api.Val{Kind: api.Stop, Next: []int{2, 1}}, api.ErrSet}, {sharp, api.ErrCmd}, {unop, api.ErrOp},
		} {
			if c.p == nil {
				wrong.want = api.ErrArg
			}
			wantErr(t, fmt.Sprintf("%s: Submit of %+v", c.name, wrong.v), c.p.Submit(wrong.v), wrong.want)
		}
		wantState(t, c.p, state)
	}
	// A wrong value doesn't wait, and no wrong Stop stops.
	p := leader(t, 1, 2)
	wantErr(t, "a wrong Stop", p.Submit(api.Val{Kind: api.Stop}), api.ErrSet)
	wantState(t, p, "leading 1/1 top 0 waiting 0 0")
}

// Values wait in their order, as many as may.
func TestQueue(t *testing.T) {
	p := leader(t, 1, 2)
	for i := range 32 {
		submit(t, p, batchOf(i+1))
		wantState(t, p, fmt.Sprintf("leading 1/1 top 0 waiting %d 0", i+1))
	}
	wantErr(t, "one more", p.Submit(noop), api.ErrQueue)
	wantGo(t, p, 0, "1:1/1:batch1 2:1/1:batch2")
	submit(t, p, batchOf(33), batchOf(34))
	wantErr(t, "one more", p.Submit(noop), api.ErrQueue)
	for executed := 1; executed <= 32; executed++ {
		wantGo(t, p, executed, fmt.Sprintf("%d:1/1:batch%d", executed+2, executed+2))
	}
	wantGo(t, p, 1000, "")
	// The queue counts what waits alone, not what is asked for.
	waiting, out := p.Waiting()
	if waiting != 0 || out != 34 {
		t.Errorf("Waiting = %d, %d", waiting, out)
	}
	for range 32 {
		submit(t, p, noop)
	}
	wantErr(t, "one more", p.Submit(noop), api.ErrQueue)
}

// A Stop is the last value that waits, and the last one of the ballot.
func TestStop(t *testing.T) {
	p := leader(t, 1, 1)
	submit(t, p, batchOf(1), noop, stop)
	closed := func(state string) {
		t.Helper()
		for _, v := range []api.Val{noop, batchOf(2), stop, fin} {
			wantErr(t, "Submit", p.Submit(v), api.ErrQueue)
		}
		wantState(t, p, state)
	}
	closed("leading 1/1 top 0 waiting 3 0 stopping")
	wantGo(t, p, 0, "1:1/1:batch1")
	closed("leading 1/1 top 1 waiting 2 1 stopping 1:1/1:batch1")
	wantGo(t, p, 2, "2:1/1:noop 3:1/1:stop[1 2]")
	closed("leading 1/1 top 3 waiting 0 3 stopping 1:1/1:batch1 2:1/1:noop 3:1/1:stop[1 2]")
	for slot := range 4 {
		p.Decided(slot)
	}
	closed("leading 1/1 top 3 waiting 0 0 stopping")
	wantGo(t, p, 3, "")
	// It ends with the ballot.
	if !p.Nack(bal(2, 2)) || p.Stopping() {
		t.Error("stopping when idle")
	}
	campaign(t, p, bal(3, 1), 4)
	if p.Stopping() {
		t.Error("stopping when asking")
	}
	promise(t, p, 1, promiseOf(bal(3, 1), 4, 0), false)
	promise(t, p, 2, promiseOf(bal(3, 1), 4, 0), true)
	if p.Stopping() {
		t.Error("stopping in another ballot")
	}
	submit(t, p, noop, fin)
	closed("leading 3/1 top 3 waiting 2 0 stopping")
}

// A Stop that was voted for stops as well, whatever is behind it, and whether it is decided or not.
func TestAdoptedStop(t *testing.T) {
	p := made(t, 1, []int{1}, 1)
	campaign(t, p, bal(1, 1), 1)
	promise(t, p, 1, promiseOf(bal(1, 1), 1, 0, vote(1, 1, 1, stop), vote(2, 1, 1, batchOf(1))), true)
	wantErr(t, "Submit", p.Submit(noop), api.ErrQueue)
	p.Decided(1)
	p.Decided(2)
	wantErr(t, "Submit", p.Submit(noop), api.ErrQueue)
	wantState(t, p, "leading 1/1 top 2 waiting 0 0 stopping")
	// Votes told for a Stop over which another value goes stop nothing.
	p = made(t, 1, []int{1, 2, 3}, 1)
	campaign(t, p, bal(9, 1), 1)
	promise(t, p, 1, promiseOf(bal(9, 1), 1, 0, vote(1, 1, 1, stop)), false)
	if p.Stopping() {
		t.Error("stopping when asking")
	}
	promise(t, p, 2, promiseOf(bal(9, 1), 1, 0, vote(1, 2, 1, noop)), true)
	wantState(t, p, "leading 9/1 top 1 waiting 0 1")
	submit(t, p, noop)
}

// P16.5: Go.

func TestGo(t *testing.T) {
	p := made(t, 1, []int{1, 2, 3}, 3)
	for _, executed := range []int{math.MinInt, -1, 0, 1, 100, math.MaxInt} {
		wantGo(t, p, executed, "")
	}
	campaign(t, p, bal(1, 1), 5)
	promise(t, p, 2, promiseOf(bal(1, 1), 5, 0, vote(6, 1, 1, batchOf(6))), false)
	for _, executed := range []int{math.MinInt, 0, 4, 100, math.MaxInt} {
		wantGo(t, p, executed, "")
	}
	promise(t, p, 1, promiseOf(bal(1, 1), 5, 4), true)
	// What was voted for is asked for, however small the window is; what waits has to wait for it.
	submit(t, p, batchOf(7), batchOf(8), batchOf(9))
	wantGo(t, p, 3, "5:1/1:noop 6:1/1:batch6")
	wantGo(t, p, 3, "")
	wantGo(t, p, 4, "7:1/1:batch7")
	wantGo(t, p, 4, "")
	wantGo(t, p, 3, "")
	wantGo(t, p, math.MinInt, "")
	wantGo(t, p, 6, "8:1/1:batch8 9:1/1:batch9")
	wantGo(t, p, 100, "")
	submit(t, p, batchOf(10))
	wantGo(t, p, 6, "")
	wantState(t, p, "leading 1/1 top 9 waiting 1 5 5:1/1:noop 6:1/1:batch6 7:1/1:batch7 8:1/1:batch8 9:1/1:batch9")
	wantGo(t, p, math.MaxInt, "10:1/1:batch10")
}

// What was voted for and what waits come in one Go, in this order.
func TestGoAllAtOnce(t *testing.T) {
	p := made(t, 1, []int{1}, 16)
	campaign(t, p, bal(1, 1), 1)
	promise(t, p, 1, promiseOf(bal(1, 1), 1, 0, vote(2, 1, 1, batchOf(2))), true)
	submit(t, p, batchOf(3), stop)
	wantGo(t, p, 0, "1:1/1:noop 2:1/1:batch2 3:1/1:batch3 4:1/1:stop[1 2]")
	// With all executed, all that waits is asked for.
	p = leader(t, 1, 1)
	for range 32 {
		submit(t, p, noop)
	}
	if got := len(p.Go(math.MaxInt)); got != 32 {
		t.Errorf("%d slots are asked for", got)
	}
}

// The window counts from what is executed to the first slot for which nothing was asked, decided or not.
func TestGoWindow(t *testing.T) {
	for _, from := range []int{1, 100} {
		for executed, want := range map[int]int{from - 6: 0, from - 5: 0, from - 4: 1, from - 3: 2, from - 2: 3, from - 1: 4, from: 5, from + 1: 6, from + 2: 6} {
			p := leader(t, from, 4)
			for range 6 {
				submit(t, p, noop)
			}
			if got := len(p.Go(executed)); got != want || p.Top() != from-1+want {
				t.Errorf("from %d, executed %d: %d slots are asked for, want %d", from, executed, got, want)
			}
		}
	}
	p := leader(t, 1, 2)
	submit(t, p, noop, noop, noop)
	wantGo(t, p, 0, "1:1/1:noop 2:1/1:noop")
	p.Decided(2)
	p.Decided(1)
	wantGo(t, p, 0, "")
	wantGo(t, p, 1, "3:1/1:noop")
}

// Above the highest slot there is none.
func TestGoHighest(t *testing.T) {
	p := leader(t, api.MaxSlot-1, 16)
	submit(t, p, batchOf(1), batchOf(2), batchOf(3))
	wantGo(t, p, api.MaxSlot-2, fmt.Sprintf("%d:1/1:batch1 %d:1/1:batch2", api.MaxSlot-1, api.MaxSlot))
	for _, executed := range []int{api.MaxSlot - 1, api.MaxSlot, math.MaxInt} {
		wantGo(t, p, executed, "")
	}
	if waiting, out := p.Waiting(); waiting != 1 || out != 2 || p.Top() != api.MaxSlot {
		t.Errorf("Waiting = %d, %d, Top = %d", waiting, out, p.Top())
	}
	p = made(t, 1, []int{1}, 16)
	campaign(t, p, bal(1, 1), api.MaxSlot)
	promise(t, p, 1, promiseOf(bal(1, 1), api.MaxSlot, 0, vote(api.MaxSlot, 1, 1, batchOf(1))), true)
	submit(t, p, noop)
	wantGo(t, p, math.MaxInt, fmt.Sprintf("%d:1/1:batch1", api.MaxSlot))
	wantGo(t, p, math.MaxInt, "")
}

// P16.5: Again.

func TestAgain(t *testing.T) {
	p := made(t, 1, []int{1, 2, 3}, 2)
	want := func(want string) {
		t.Helper()
		for range 2 { // asking changes nothing
			if got := tellMsgs(p.Again()); got != want {
				t.Errorf("Again = %q, want %q", got, want)
			}
		}
	}
	want("")
	campaign(t, p, bal(4, 1), 5)
	want("prepare 4/1 from 5")
	promise(t, p, 2, promiseOf(bal(4, 1), 5, 0, vote(17, 1, 1, batchOf(17))), false)
	want("prepare 4/1 from 5")
	promise(t, p, 1, promiseOf(bal(4, 1), 5, 0), true)
	// Nothing was told by a Go yet.
	want("")
	for slot := 6; slot <= 15; slot++ {
		p.Decided(slot)
	}
	want("")
	p.Go(0)
	want("5:4/1:noop 16:4/1:noop 17:4/1:batch17")
	submit(t, p, batchOf(18), batchOf(19))
	want("5:4/1:noop 16:4/1:noop 17:4/1:batch17")
	p.Go(16)
	want("5:4/1:noop 16:4/1:noop 17:4/1:batch17 18:4/1:batch18")
	p.Decided(16)
	want("5:4/1:noop 17:4/1:batch17 18:4/1:batch18")
	p.Go(17)
	want("5:4/1:noop 17:4/1:batch17 18:4/1:batch18 19:4/1:batch19")
	p.Decided(5)
	p.Decided(19)
	want("17:4/1:batch17 18:4/1:batch18")
	p.Nack(bal(5, 3))
	want("")
}

// Many slots, rising: the order hangs on nothing else.
func TestAgainRises(t *testing.T) {
	p := leader(t, 3, 16)
	for range 16 {
		submit(t, p, noop)
	}
	p.Go(2)
	for range 20 {
		for i, m := range p.Again() {
			if m.Slot != 3+i {
				t.Fatalf("message %d is of slot %d", i, m.Slot)
			}
		}
	}
}

// P16.6: Decided.

func TestDecided(t *testing.T) {
	p := made(t, 1, []int{1, 2, 3}, 16)
	for _, slot := range []int{5, 6, 0} {
		p.Decided(slot) // idle
	}
	campaign(t, p, bal(1, 1), 5)
	p.Decided(5) // asking: nothing is asked for by then
	promise(t, p, 1, promiseOf(bal(1, 1), 5, 0, vote(8, 1, 1, batchOf(8))), false)
	p.Decided(8)
	promise(t, p, 2, promiseOf(bal(1, 1), 5, 0), true)
	wantState(t, p, "leading 1/1 top 8 waiting 0 4")
	// Ahead of the first Go: it is never told.
	p.Decided(6)
	wantState(t, p, "leading 1/1 top 8 waiting 0 3")
	for _, slot := range []int{6, 4, 0, -1, math.MinInt, math.MaxInt, api.MaxSlot} {
		p.Decided(slot)
	}
	// What isn't asked for yet may be decided as often as it likes.
	p.Decided(9)
	submit(t, p, batchOf(9))
	p.Decided(9)
	wantGo(t, p, 4, "5:1/1:noop 7:1/1:noop 8:1/1:batch8 9:1/1:batch9")
	p.Decided(9)
	p.Decided(5)
	wantState(t, p, "leading 1/1 top 9 waiting 0 2 7:1/1:noop 8:1/1:batch8")
	// Nothing is asked for there again: the next one is the one behind it.
	submit(t, p, batchOf(10))
	wantGo(t, p, 9, "10:1/1:batch10")
	// Another ballot asks for what it has to.
	campaign(t, p, bal(2, 1), 9)
	promise(t, p, 1, promiseOf(bal(2, 1), 9, 0, vote(9, 1, 1, batchOf(9))), false)
	promise(t, p, 3, promiseOf(bal(2, 1), 9, 0), true)
	wantGo(t, p, 9, "9:2/1:batch9")
}

// P16.6: Nack.

func TestNack(t *testing.T) {
	higher := []api.Bal{bal(5, 3), bal(5, 9), bal(5, 100), bal(6, 0), bal(6, 1), bal(6, 2), bal(api.MaxRound+1, 1), bal(math.MaxInt, math.MaxInt), bal(math.MaxInt, math.MinInt)}
	other := []api.Bal{{}, bal(5, 2), bal(5, 1), bal(5, 0), bal(5, -1), bal(4, 9), bal(4, 100), bal(1, 2), bal(-1, 2), bal(math.MinInt, math.MaxInt)}
	idle := func() *Proposer { return made(t, 2, []int{1, 2, 3}, 2) }
	asking := func() *Proposer {
		p := idle()
		campaign(t, p, bal(5, 2), 7)
		promise(t, p, 1, promiseOf(bal(5, 2), 7, 0, vote(9, 1, 1, stop)), false)
		return p
	}
	leading := func() *Proposer {
		p := asking()
		promise(t, p, 2, promiseOf(bal(5, 2), 7, 0, vote(9, 2, 1, batchOf(9))), true)
		submit(t, p, batchOf(10), stop)
		p.Go(8)
		return p
	}
	for _, b := range slices.Concat(higher, other) {
		p := idle()
		if p.Nack(b) {
			t.Errorf("idle: Nack(%v)", b)
		}
		wantState(t, p, "idle 0/0 top 0 waiting 0 0")
		if (*Proposer)(nil).Nack(b) {
			t.Errorf("nil: Nack(%v)", b)
		}
	}
	for _, begin := range []func() *Proposer{asking, leading} {
		for _, b := range other {
			p := begin()
			state := tell(p)
			if p.Nack(b) {
				t.Errorf("%s: Nack(%v)", state, b)
			}
			wantState(t, p, state)
		}
		for _, b := range higher {
			p := begin()
			if !p.Nack(b) {
				t.Errorf("%s: no Nack(%v)", tell(p), b)
			}
			wantState(t, p, "idle 5/2 top 0 waiting 0 0")
			if p.Nack(b) {
				t.Error("a Nack of one that is idle")
			}
			wantGo(t, p, 100, "")
			wantErr(t, "Submit", p.Submit(noop), api.ErrLeader)
			refuse(t, "behind it", p, 3, promiseOf(bal(5, 2), 7, 0), api.ErrOld)
			// The ballot is kept: the next one is above it, and needn't be above the other's.
			_, e := p.Campaign(bal(5, 2), 7)
			wantErr(t, "the same ballot", e, api.ErrBal)
			campaign(t, p, bal(6, 2), 7)
			promise(t, p, 2, promiseOf(bal(6, 2), 7, 0), false)
			promise(t, p, 3, promiseOf(bal(6, 2), 7, 0), true)
			wantState(t, p, "leading 6/2 top 6 waiting 0 0")
			wantGo(t, p, 100, "")
		}
	}
}

// P16.7: what a proposer tells.

func TestNil(t *testing.T) {
	var none *Proposer
	wantState(t, none, "idle 0/0 top 0 waiting 0 0")
	none.Decided(1)
	if none.Nack(bal(1, 1)) || len(none.Go(5)) != 0 || len(none.Again()) != 0 || none.Stopping() {
		t.Error("a nil proposer tells something")
	}
	if Idle != 0 || Asking != 1 || Leading != 2 {
		t.Error("the phases' numbers")
	}
}

// A proposer that New hasn't made is no node's: it stays idle.
func TestNotMade(t *testing.T) {
	p := &Proposer{}
	for _, b := range []api.Bal{{}, bal(1, 0), bal(1, 1)} {
		_, e := p.Campaign(b, 1)
		wantErr(t, "Campaign", e, api.ErrBal)
	}
	refuse(t, "Promise", p, 1, promiseOf(bal(1, 1), 1, 0), api.ErrOld)
	wantErr(t, "Submit", p.Submit(noop), api.ErrLeader)
	p.Decided(1)
	wantGo(t, p, 5, "")
	wantState(t, p, "idle 0/0 top 0 waiting 0 0")
}

func TestTop(t *testing.T) {
	for _, from := range []int{1, 2, 100, api.MaxSlot} {
		p := made(t, 1, []int{1}, 2)
		want := func(want int) {
			t.Helper()
			if p.Top() != want {
				t.Errorf("from %d: Top = %d, want %d", from, p.Top(), want)
			}
		}
		want(0)
		campaign(t, p, bal(1, 1), from)
		want(0)
		promise(t, p, 1, promiseOf(bal(1, 1), from, 0), true)
		want(from - 1)
		submit(t, p, noop)
		want(from - 1)
		p.Go(from - 1)
		want(from)
		p.Decided(from)
		want(from)
		p.Nack(bal(2, 1))
		want(0)
	}
}

// Rule 4: what is handed in is neither changed nor kept, and an answer is new memory.

// spoil changes all that a value's lists hold, and the room behind their ends.
func spoil(v api.Val) {
	for i := range v.Cmds[:cap(v.Cmds)] {
		v.Cmds[:cap(v.Cmds)][i] = api.Cmd{Sess: -1}
	}
	for i := range v.Next[:cap(v.Next)] {
		v.Next[:cap(v.Next)][i] = -1
	}
}

func TestMemory(t *testing.T) {
	members := []int{1, 2, 3, 4}
	p := made(t, 1, members[:3], 4)
	clear(members)
	campaign(t, p, bal(1, 1), 1)
	room := []int{1, 2, 3}
	m := promiseOf(bal(1, 1), 1, 0, vote(1, 1, 1, batchOf(1)), vote(2, 1, 1, api.Val{Kind: api.Stop, Next: room[:2]}))
	promise(t, p, 1, m, false)
	if fmt.Sprint(room) != "[1 2 3]" || tellVal(m.Votes[0].Val) != "batch1" || tellVal(m.Votes[1].Val) != "stop[1 2]" {
		t.Error("what was handed in has changed")
	}
	for _, v := range m.Votes {
		spoil(v.Val)
	}
	clear(m.Votes)
	promise(t, p, 3, promiseOf(bal(1, 1), 1, 0), true)
	spoilAll := func(ms []api.Msg) {
		for _, m := range ms {
			spoil(m.Val)
		}
		clear(ms)
	}
	spoilAll(p.Go(0))
	spoilAll(p.Again())
	one, two := p.Again(), p.Again()
	spoilAll(one)
	const told = "1:1/1:batch1 2:1/1:stop[1 2]"
	if got := tellMsgs(two); got != told {
		t.Errorf("one answer has changed another: %q", got)
	}
	wantState(t, p, "leading 1/1 top 2 waiting 0 2 stopping "+told)

	p = leader(t, 1, 4)
	same := batchOf(5)
	submit(t, p, same, same)
	if tellVal(same) != "batch5" {
		t.Error("what was handed in has changed")
	}
	spoil(same)
	ms := p.Go(0)
	spoil(ms[0].Val)
	if got := tellMsgs(ms[1:]); got != "2:1/1:batch5" {
		t.Errorf("two lists of one answer share memory: %q", got)
	}
	wantState(t, p, "leading 1/1 top 2 waiting 0 2 1:1/1:batch5 2:1/1:batch5")
	ms = p.Again()
	spoil(ms[0].Val)
	if got := tellMsgs(ms[1:]); got != "2:1/1:batch5" {
		t.Errorf("two lists of one answer share memory: %q", got)
	}
}

// Rule 6: two proposers never meet.
func TestTwo(t *testing.T) {
	a, b := leader(t, 1, 2), made(t, 2, []int{1, 2, 3}, 2)
	submit(t, a, batchOf(1), stop)
	campaign(t, b, bal(2, 2), 1)
	a.Go(0)
	b.Decided(1)
	promise(t, b, 3, promiseOf(bal(2, 2), 1, 0), false)
	wantState(t, a, "leading 1/1 top 2 waiting 0 2 stopping 1:1/1:batch1 2:1/1:stop[1 2]")
	wantState(t, b, "asking 2/2 top 0 waiting 0 0 prepare 2/2 from 1")
}

// plain is a model of a proposer: it keeps all that it has heard in this ballot, and works out the rest each time.
type plain struct {
	me      int
	members []int
	window  int
	phase   int
	bal     api.Bal
	from    int
	nodes   []int      // who has promised, again and again
	told    []api.Vote // all that came with it
	asked   []api.Vote // slot by slot
	decided map[int]bool
	gone    int // how many of those a Go has told
	queue   []api.Val
	stop    bool
}

func above(a, b api.Bal) bool { return a.Round > b.Round || a.Round == b.Round && a.Node > b.Node }

func (p *plain) idle() {
	*p = plain{me: p.me, members: p.members, window: p.window, bal: p.bal}
}

func (p *plain) campaign(b api.Bal, from int) api.Errno {
	if from < 1 || from > 1<<40 {
		return api.ErrArg
	}
	if b.Round < 1 || b.Round > 1<<40 || b.Node != p.me || !above(b, p.bal) {
		return api.ErrBal
	}
	p.idle()
	p.phase, p.bal, p.from, p.decided = 1, b, from, map[int]bool{}
	return api.OK
}

func (p *plain) promise(node int, m api.Msg) (bool, api.Errno) {
	switch {
	case m.Kind != api.Promise || msg.Check(m) != api.OK:
		return false, api.ErrArg
	case p.phase != 1 || m.Bal != p.bal || m.Slot != p.from:
		return false, api.ErrOld
	case !slices.Contains(p.members, node):
		return false, api.ErrSet
	case len(m.Votes) > 0 && m.Votes[len(m.Votes)-1].Slot > p.from+63:
		return false, api.ErrRange
	case m.Low >= p.from:
		p.idle()
		return false, api.ErrBehind
	}
	p.nodes, p.told = append(p.nodes, node), append(p.told, m.Votes...)
	count := 0
	for _, member := range p.members {
		if slices.Contains(p.nodes, member) {
			count++
		}
	}
	if 2*count <= len(p.members) {
		return false, api.OK
	}
	p.phase = 2
	slices.SortStableFunc(p.told, func(a, b api.Vote) int {
		return cmp.Or(cmp.Compare(a.Slot, b.Slot), cmp.Compare(b.Bal.Round, a.Bal.Round), cmp.Compare(b.Bal.Node, a.Bal.Node))
	})
	for _, v := range p.told {
		for p.from+len(p.asked) < v.Slot {
			p.asked = append(p.asked, api.Vote{Slot: p.from + len(p.asked)})
		}
		if p.from+len(p.asked) == v.Slot {
			p.asked = append(p.asked, v)
		}
	}
	return true, api.OK
}

func (p *plain) stopping() bool {
	isStop := func(v api.Vote) bool { return v.Val.Kind == api.Stop }
	return slices.ContainsFunc(p.asked, isStop) || slices.ContainsFunc(p.queue, func(v api.Val) bool { return v.Kind == api.Stop })
}

func (p *plain) submit(v api.Val) api.Errno {
	if e := value.Check(v); e != api.OK {
		return e
	}
	if p.phase != 2 {
		return api.ErrLeader
	}
	if len(p.queue) > 31 || p.stopping() {
		return api.ErrQueue
	}
	p.queue = append(p.queue, v)
	return api.OK
}

// accepts is what is asked for in some of the slots, as a text.
func (p *plain) accepts(asked []api.Vote) string {
	var all []string
	for _, v := range asked {
		if !p.decided[v.Slot] {
			all = append(all, fmt.Sprintf("%d:%d/%d:%s", v.Slot, p.bal.Round, p.bal.Node, tellVal(v.Val)))
		}
	}
	return strings.Join(all, " ")
}

func (p *plain) run(executed int) string {
	if p.phase != 2 {
		return ""
	}
	for len(p.queue) > 0 && p.from+len(p.asked) <= 1<<40 {
		first := p.from + len(p.asked)
		if executed < -1000 || first-executed > min(16, max(1, p.window)) {
			break
		}
		p.asked = append(p.asked, api.Vote{Slot: first, Val: p.queue[0]})
		p.queue = p.queue[1:]
	}
	fresh := p.asked[p.gone:]
	p.gone = len(p.asked)
	return p.accepts(fresh)
}

func (p *plain) hearDecided(slot int) {
	if p.phase == 2 && p.from <= slot && slot < p.from+len(p.asked) {
		p.decided[slot] = true
	}
}

func (p *plain) nack(b api.Bal) bool {
	if p.phase == 0 || !above(b, p.bal) {
		return false
	}
	p.idle()
	return true
}

func (p *plain) tell() string {
	top, again := 0, ""
	switch p.phase {
	case 1:
		again = fmt.Sprintf("prepare %d/%d from %d", p.bal.Round, p.bal.Node, p.from)
	case 2:
		top, again = p.from-1+len(p.asked), p.accepts(p.asked[:p.gone])
	}
	s := fmt.Sprintf("%s %d/%d top %d waiting %d %d", [...]string{"idle", "asking", "leading"}[p.phase], p.bal.Round, p.bal.Node, top, len(p.queue), len(p.asked)-len(p.decided))
	if p.stopping() {
		s += " stopping"
	}
	return strings.TrimSpace(s + " " + again)
}

// dice takes what is to be done from bytes, and ends with them.
type dice struct{ left []byte }

// up is a number below n.
func (d *dice) up(n int) int {
	if len(d.left) == 0 {
		return 0
	}
	b := int(d.left[0])
	d.left = d.left[1:]
	return b % n
}

func (d *dice) val() api.Val {
	switch d.up(16) {
	case 0:
		return []api.Val{{Kind: 3}, {Kind: api.Stop}, {Next: []int{1}}, {Kind: api.Batch, Cmds: []api.Cmd{{}}}}[d.up(4)]
	case 1:
		return stop
	case 2, 3, 4:
		return noop
	}
	return batchOf(1 + d.up(20))
}

// promise is a promise that the model waits for, or nearly so.
func (d *dice) promise(p *plain) api.Msg {
	m := promiseOf(p.bal, p.from, 0)
	slot := p.from
	for range d.up(4) {
		slot += d.up(4)
		m.Votes = append(m.Votes, api.Vote{Slot: slot, Bal: bal(1+d.up(2), 1+d.up(3)), Val: d.val()})
		slot++
	}
	switch d.up(40) {
	case 0:
		m.Slot++
	case 1:
		m.Bal.Round--
	case 2, 3:
		m.Low = p.from + d.up(3) - 1
	case 4, 5:
		m.Votes = append(m.Votes, api.Vote{Slot: p.from + 62 + d.up(4), Bal: bal(1, 1), Val: noop})
	case 6:
		m.Kind = api.Voted
	}
	return m
}

// against does what bytes say to a proposer and to the model, and asks that they never differ.
func against(t *testing.T, data []byte) {
	d := &dice{data}
	members := [][]int{{1, 2, 3}, {2}, {2, 3, 5, 7}, {1, 2, 4, 8, 9}}[d.up(4)]
	from := []int{1, 9, api.MaxSlot - 70, api.MaxSlot - 6, api.MaxSlot}[d.up(5)]
	m := &plain{me: 2, members: members, window: d.up(19)}
	p := New(2, members, m.window)
	for len(d.left) > 0 {
		var what, got, want string
		edge := m.from + len(m.asked)
		switch n := d.up(32); {
		case n < 2:
			b, from := bal(m.bal.Round+d.up(3), 2+d.up(12)/11), from+d.up(9)-1
			sent, e := p.Campaign(b, from)
			wantE := m.campaign(b, from)
			what, got, want = fmt.Sprint("Campaign ", b, from), fmt.Sprint(e, tellMsg(sent)), fmt.Sprint(wantE)
			if wantE == api.OK {
				want += fmt.Sprintf("prepare %d/2 from %d", b.Round, from)
			}
		case n < 10:
			node, heard := members[d.up(len(members))]+d.up(12)/11, d.promise(m)
			led, e := p.Promise(node, heard)
			wantLed, wantE := m.promise(node, heard)
			what, got, want = fmt.Sprint("Promise ", node, heard), fmt.Sprint(led, e), fmt.Sprint(wantLed, wantE)
		case n < 20:
			v := d.val()
			what, got, want = fmt.Sprint("Submit ", tellVal(v)), fmt.Sprint(p.Submit(v)), fmt.Sprint(m.submit(v))
		case n < 26:
			executed := []int{edge - 18, edge - 2, edge - 1, edge - 1 - d.up(17), edge + d.up(9), math.MinInt, math.MaxInt}[d.up(7)]
			what, got, want = fmt.Sprint("Go ", executed), tellMsgs(p.Go(executed)), m.run(executed)
		case n < 31:
			slot := edge - d.up(20) + 2
			what = fmt.Sprint("Decided ", slot)
			p.Decided(slot)
			m.hearDecided(slot)
		default:
			b := bal(m.bal.Round+d.up(3)-1, 1+d.up(3))
			what, got, want = fmt.Sprint("Nack ", b), fmt.Sprint(p.Nack(b)), fmt.Sprint(m.nack(b))
		}
		if got != want || tell(p) != m.tell() {
			t.Fatalf("%s = %q, want %q; the state is %q, want %q", what, got, want, tell(p), m.tell())
		}
	}
}

func TestAgainstModel(t *testing.T) {
	rnd := rand.New(rand.NewSource(16))
	for range 3000 {
		data := make([]byte, 600)
		rnd.Read(data)
		against(t, data)
	}
}

func FuzzAgainstModel(f *testing.F) {
	f.Add([]byte("a proposer asks for promises, and then for votes, in a window of slots"))
	f.Fuzz(against)
}

// Several proposers over acceptors and learners: whatever comes late, twice or never, two learners never differ; and when all comes, all is decided.

// node is one of several.
type node struct {
	id int
	a  *acceptor.Acceptor
	l  *learner.Learner
	p  *Proposer
}

// house is nodes, and the messages between them.
type house struct {
	t       *testing.T
	rnd     *rand.Rand
	members []int
	nodes   map[int]*node
	mail    []api.Msg
	chosen  map[int]api.Val
	sess    int
}

func newHouse(t *testing.T, seed int64, members []int) *house {
	h := &house{t: t, rnd: rand.New(rand.NewSource(seed)), members: members, nodes: map[int]*node{}, chosen: map[int]api.Val{}}
	for _, id := range members {
		l, recs, e := wal.Open(disk.New(api.MaxRoom), api.MaxSeg)
		wantErr(t, "wal.Open", e, api.OK)
		a, e := acceptor.Open(l, recs, 0, 0)
		wantErr(t, "acceptor.Open", e, api.OK)
		h.nodes[id] = &node{id, a, learner.New(members, 1), New(id, members, 4)}
	}
	return h
}

// send sends to all members, the sender too.
func (h *house) send(from int, ms ...api.Msg) {
	for _, m := range ms {
		for _, to := range h.members {
			m.From, m.To = from, to
			wantErr(h.t, "msg.Check", msg.Check(m), api.OK)
			h.mail = append(h.mail, msg.Clone(m))
		}
	}
}

// answer sends an acceptor's answer to one node.
func (h *house) answer(from, to int, m api.Msg) {
	if m.Kind != api.NoMsg {
		m.From, m.To = from, to
		h.mail = append(h.mail, m)
	}
}

// deliver lets a message arrive.
func (h *house) deliver(m api.Msg) {
	n := h.nodes[m.To]
	switch m.Kind {
	case api.Prepare:
		answer, _ := n.a.Prepare(m.Bal, m.Slot)
		h.answer(n.id, m.From, answer)
	case api.Accept:
		answer, e := n.a.Accept(m.Bal, m.Slot, m.Val)
		if e == api.ErrClash {
			h.t.Fatalf("two values of one ballot: %s", tellMsg(m))
		}
		if answer.Kind == api.Voted {
			h.send(n.id, answer)
		}
		h.answer(n.id, m.From, answer)
	case api.Promise:
		n.p.Promise(m.From, m)
		// What its learner knows by then needs no votes.
		for slot := n.executed() + 1; slot <= n.p.Top(); slot++ {
			if _, there := n.l.Known(slot); there {
				n.p.Decided(slot)
			}
		}
	case api.Nack:
		n.p.Nack(m.Bal)
	case api.Voted:
		if n.l.Voted(m.From, api.Vote{Slot: m.Slot, Bal: m.Bal, Val: m.Val}) {
			h.decided(n, m.Slot)
		}
	}
}

func (h *house) decided(n *node, slot int) {
	v, _ := n.l.Known(slot)
	old, there := h.chosen[slot]
	if there && !value.Same(old, v) {
		h.t.Fatalf("slot %d is %s and %s", slot, tellVal(old), tellVal(v))
	}
	h.chosen[slot] = v
	n.p.Decided(slot)
	for n.l.Pass() {
	}
}

// executed is the last slot up to which a node knows all.
func (n *node) executed() int {
	next, _, _ := n.l.Next()
	return next - 1
}

// ask tells a node what others know of the next slots.
func (h *house) ask(n *node) {
	for slot := n.executed() + 1; slot <= n.executed()+20; slot++ {
		for _, other := range h.nodes {
			if v, there := other.l.Known(slot); there && n.l.Told(slot, v) {
				h.decided(n, slot)
			}
		}
	}
}

// raise lets a node forget what all have executed.
func (h *house) raise(n *node) {
	floor := math.MaxInt
	for _, other := range h.nodes {
		floor = min(floor, other.executed())
	}
	if floor > n.a.Floor() {
		wantErr(h.t, "Raise", n.a.Raise(floor), api.OK)
		n.l.Trim(floor)
	}
}

// campaign begins a ballot above one and all that the node knows.
func (h *house) campaign(n *node, least api.Bal) {
	for _, b := range []api.Bal{n.a.Promised(), n.p.Bal()} {
		if above(b, least) {
			least = b
		}
	}
	b, e := ballot.Members(h.members).Next(least, n.id)
	wantErr(h.t, "Next", e, api.OK)
	m, e := n.p.Campaign(b, n.executed()+1)
	wantErr(h.t, "Campaign", e, api.OK)
	h.send(n.id, m)
}

// step does any one thing.
func (h *house) step() {
	n := h.nodes[h.members[h.rnd.Intn(len(h.members))]]
	switch k := h.rnd.Intn(40); {
	case k < 1:
		h.campaign(n, api.Bal{})
	case k < 5:
		h.sess++
		n.p.Submit(batchOf(h.sess))
	case k < 8:
		h.send(n.id, n.p.Go(n.executed())...)
	case k < 9:
		h.send(n.id, n.p.Again()...)
	case k < 10:
		h.ask(n)
	case k < 11:
		h.raise(n)
	default:
		if len(h.mail) == 0 {
			return
		}
		i := h.rnd.Intn(len(h.mail))
		m := h.mail[i]
		if h.rnd.Intn(8) > 0 { // else it will come again
			h.mail = slices.Delete(h.mail, i, i+1)
		}
		if h.rnd.Intn(8) > 0 { // else it is lost
			h.deliver(m)
		}
	}
}

// calm lets all messages arrive, in their order.
func (h *house) calm() {
	for len(h.mail) > 0 {
		m := h.mail[0]
		h.mail = h.mail[1:]
		h.deliver(m)
	}
}

func TestNodesNeverDiffer(t *testing.T) {
	slots := 0
	for seed := range int64(150) {
		members := [][]int{{1, 2, 3}, {2, 3, 5, 7}, {1, 2, 3, 4, 9}, {6}}[seed%4]
		h := newHouse(t, seed, members)
		for range 2000 {
			h.step()
		}
		slots += len(h.chosen)
		h.mail = nil
		// In the calm all know of each other's slots, and one leads, and decides all that it is asked for.
		for _, n := range h.nodes {
			h.ask(n)
		}
		for _, n := range h.nodes {
			h.raise(n)
		}
		n := h.nodes[members[0]]
		h.campaign(n, bal(1000, 1))
		h.calm()
		if n.p.Phase() != Leading {
			t.Fatalf("nobody leads in the calm: %s", tell(n.p))
		}
		wantErr(t, "Submit", n.p.Submit(stop), api.OK)
		for range 100 {
			h.send(n.id, n.p.Go(n.executed())...)
			h.calm()
			h.send(n.id, n.p.Again()...)
			h.calm()
		}
		if waiting, out := n.p.Waiting(); waiting != 0 || out != 0 || n.executed() != n.p.Top() || !n.p.Stopping() {
			t.Fatalf("not all is decided: %s", tell(n.p))
		}
		if v, there := n.l.Known(n.p.Top()); !there || tellVal(v) != "stop[1 2]" {
			t.Fatalf("the last value is %s", tellVal(v))
		}
	}
	if slots < 1000 {
		t.Errorf("%d slots were decided", slots)
	}
}

// The chapter's example.

func TestExample(t *testing.T) {
	p := made(t, 1, []int{1, 2, 3}, 1)
	campaign(t, p, bal(1, 1), 5)
	promise(t, p, 1, promiseOf(bal(1, 1), 5, 0), false)
	promise(t, p, 2, promiseOf(bal(1, 1), 5, 4, vote(7, 1, 1, batchOf(1))), true)
	wantGo(t, p, 4, "5:1/1:noop 6:1/1:noop 7:1/1:batch1")
	if p.Top() != 7 {
		t.Errorf("Top = %d", p.Top())
	}
}
