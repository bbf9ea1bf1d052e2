package executor

import (
	"bytes"
	"fmt"
	"math"
	"math/rand"
	"slices"
	"testing"

	"synod/api"
	"synod/app"
	"synod/ballot"
	"synod/pack"
	"synod/session"
	"synod/value"
)

const top = api.MaxPart

func res(kind, re, im int) api.Res { return api.Res{Kind: kind, Re: re, Im: im} }

func get(reg int) api.Op { return api.Op{Kind: api.Get, Reg: reg} }

func put(reg, re, im int) api.Op { return api.Op{Kind: api.Put, Reg: reg, Re: re, Im: im} }

func cmd(no, seq, ack int, o api.Op) api.Cmd { return api.Cmd{Sess: no, Seq: seq, Ack: ack, Op: o} }

func batch(cmds ...api.Cmd) api.Val { return api.Val{Kind: api.Batch, Cmds: cmds} }

func stop(next ...int) api.Val { return api.Val{Kind: api.Stop, Next: next} }

func sess(no, ack int, list ...api.Kept) api.Sess { return api.Sess{No: no, Ack: ack, Kept: list} }

func kept(seq, kind, re, im int) api.Kept { return api.Kept{Seq: seq, Res: res(kind, re, im)} }

// eight are replies to the eight Seqs from one on.
func eight(from int) []api.Kept {
	var list []api.Kept
	for n := range api.MaxKeep {
		list = append(list, kept(from+n, api.Value+n%3, n, -n))
	}
	return list
}

// some is a state with something in all its fields.
func some() api.Image {
	return api.Image{
		Epoch: 3, Members: []int{2, 5, 9}, Slot: 40,
		Regs: [api.Regs]api.Reg{{Re: 1, Im: 2}, {Re: -3}, {Im: 4}, {Re: top, Im: -top}, {}, {Re: 6, Im: 6}, {Re: 255, Im: 256}, {Re: -1, Im: -1}},
		Sess: []api.Sess{sess(4, 2, kept(3, 1, 7, 8), kept(6, 2, 0, 0)), sess(5, 9), {No: 900, Ack: 0, Kept: eight(3)}},
	}
}

// widest is the state of the most bytes.
func widest() api.Image {
	i := api.Image{Epoch: api.MaxRound, Members: []int{3, 4, 5, 6, 7, 8, 9}, Slot: api.MaxSlot}
	for n := range i.Regs {
		i.Regs[n] = api.Reg{Re: top, Im: -top}
	}
	for n := range api.MaxSess {
		list := eight(api.MaxSeq - 7)
		for k := range list {
			list[k].Res = res(api.Missed, math.MinInt, math.MaxInt)
		}
		i.Sess = append(i.Sess, sess(api.MaxSessNo-15+n, api.MaxSeq-8, list...))
	}
	return i
}

// crowded is a state with as many sessions as there may be: 10, 20 and so on.
func crowded() api.Image {
	i := First([]int{1, 2, 3})
	for n := range api.MaxSess {
		i.Sess = append(i.Sess, sess(10*(n+1), 5))
	}
	return i
}

func validStates() []api.Image {
	list := []api.Image{First([]int{1}), First([]int{9}), First([]int{1, 2, 3}), First([]int{1, 2, 3, 4, 5, 6, 7}), some(), widest(), crowded()}
	for _, n := range []int{0, 1, 127, 128, api.MaxRound - 1, api.MaxRound} {
		list = append(list, api.Image{Epoch: n, Members: []int{1, 9}}, api.Image{Slot: n, Members: []int{4}, Sess: []api.Sess{}})
	}
	return list
}

// wrongStates are right in all things but one.
func wrongStates() []api.Image {
	var list []api.Image
	add := func(change func(i *api.Image)) {
		i := some()
		change(&i)
		list = append(list, i)
	}
	for _, n := range []int{math.MinInt, -1, 1<<40 + 1, math.MaxInt} {
		add(func(i *api.Image) { i.Epoch = n })
		add(func(i *api.Image) { i.Slot = n })
		add(func(i *api.Image) { i.Sess[1].Ack = n })
	}
	for _, ms := range [][]int{nil, {}, {0}, {10}, {-1}, {1, 1}, {2, 1}, {1, math.MaxInt}, {1, 2, 3, 4, 5, 6, 7, 8}, make([]int, 1000)} {
		add(func(i *api.Image) { i.Members = ms })
	}
	for reg := range api.Regs {
		for _, n := range []int{math.MinInt, -top - 1, top + 1, math.MaxInt} {
			add(func(i *api.Image) { i.Regs[reg].Re = n })
			add(func(i *api.Image) { i.Regs[reg].Im = n })
		}
	}
	add(func(i *api.Image) { i.Sess[0].No = 0 })
	add(func(i *api.Image) { i.Sess[0].No = 5 })
	add(func(i *api.Image) { i.Sess[2].No = api.MaxSessNo + 1 })
	add(func(i *api.Image) { i.Sess[0].Kept[0].Seq = 2 })
	add(func(i *api.Image) { i.Sess[0].Kept[0].Seq = 6 })
	add(func(i *api.Image) { i.Sess[0].Kept[1].Seq = api.MaxSeq + 1 })
	add(func(i *api.Image) { i.Sess[0].Kept[1].Res.Kind = api.NoRes })
	add(func(i *api.Image) { i.Sess[0].Kept[1].Res.Kind = api.Stale })
	add(func(i *api.Image) { i.Sess[2].Kept = append(i.Sess[2].Kept, kept(11, 1, 0, 0)) })
	add(func(i *api.Image) { i.Sess = append(crowded().Sess, sess(1000, 0)) })
	add(func(i *api.Image) { i.Sess = make([]api.Sess, 1000) })
	return append(list, api.Image{})
}

// show is a state as a text, in which nil and empty are one.
func show(i api.Image) string {
	text := fmt.Sprintf("epoch %d members %d slot %d regs %d", i.Epoch, i.Members, i.Slot, i.Regs)
	for _, s := range i.Sess {
		text += fmt.Sprintf(" [%d ack %d %d]", s.No, s.Ack, s.Kept)
	}
	return text
}

func wantState(t *testing.T, what string, got, want api.Image) {
	t.Helper()
	if show(got) != show(want) {
		t.Errorf("%s:\n got %s\nwant %s", what, show(got), show(want))
	}
}

// P20.1

func TestFirst(t *testing.T) {
	for _, ms := range [][]int{{1}, {1, 2, 3}, {3, 4, 5, 6, 7, 8, 9}, nil, {0}, {2, 1}, make([]int, 100)} {
		i := First(ms)
		wantState(t, "First", i, api.Image{Members: ms})
		if Valid(i) != (ballot.Check(ms) == api.OK) {
			t.Errorf("First(%d): valid %v", ms, Valid(i))
		}
	}
}

func TestValid(t *testing.T) {
	for _, i := range validStates() {
		if !Valid(i) {
			t.Error("not valid:", show(i))
		}
	}
	for _, i := range wrongStates() {
		if Valid(i) {
			t.Error("valid:", show(i))
		}
	}
}

func TestClone(t *testing.T) {
	for _, i := range append(validStates(), wrongStates()...) {
		wantState(t, "Clone", Clone(i), i)
	}
}

// roomy is a state with room behind all its lists, and something in it.
func roomy(i api.Image) api.Image {
	i.Members = append(slices.Clone(i.Members), 7, 8, 9)[:len(i.Members)]
	list := make([]api.Sess, 0, len(i.Sess)+2)
	for _, s := range i.Sess {
		s.Kept = append(slices.Clone(s.Kept), eight(800)...)[:len(s.Kept)]
		list = append(list, s)
	}
	i.Sess = append(list, sess(801, 0), sess(802, 0))[:len(list)]
	return i
}

// whole is a state with the room behind its lists, as a text.
func whole(i api.Image) string {
	i.Members, i.Sess = i.Members[:cap(i.Members)], slices.Clone(i.Sess[:cap(i.Sess)])
	for n, s := range i.Sess {
		i.Sess[n].Kept = s.Kept[:cap(s.Kept)]
	}
	return show(i)
}

// spoil overwrites all lists of a state with a number, the room behind them included.
func spoil(i api.Image, n int) {
	for _, s := range i.Sess {
		list := s.Kept[:cap(s.Kept)]
		for k := range list {
			list[k] = kept(n, n, n, n)
		}
	}
	ms := i.Members[:cap(i.Members)]
	for k := range ms {
		ms[k] = n
	}
	for k := range i.Sess[:cap(i.Sess)] {
		i.Sess[:cap(i.Sess)][k] = sess(n, n)
	}
}

// wantApart is that no two lists of replies in an answer share memory.
func wantApart(t *testing.T, what string, i api.Image) {
	t.Helper()
	for n, s := range i.Sess {
		list := s.Kept[:cap(s.Kept)]
		for k := range list {
			list[k].Seq = n
		}
	}
	for n, s := range i.Sess {
		for _, k := range s.Kept[:cap(s.Kept)] {
			if k.Seq != n {
				t.Errorf("%s: two sessions share memory", what)
			}
		}
	}
}

// Rule 4.
func TestMemory(t *testing.T) {
	next := []int{1, 2, 3, 4}
	busy := batch(cmd(4, 9, 3, put(1, 2, 3)), cmd(4, 9, 3, put(1, 9, 9)), cmd(5, 12, 10, get(1)), cmd(6, 1, 0, put(2, 0, 0)), cmd(900, 20, 0, get(0)), cmd(900, 21, 5, get(0)))
	for n, i := range append(validStates(), wrongStates()...) {
		for name, call := range map[string]func(i api.Image) api.Image{
			"Clone":            Clone,
			"First":            func(i api.Image) api.Image { return First(i.Members) },
			"Execute of Noop":  func(i api.Image) api.Image { j, _, _ := Execute(i, i.Slot+1, api.Val{}); return j },
			"Execute of Stop":  func(i api.Image) api.Image { j, _, _ := Execute(i, i.Slot+1, stop(next[:2]...)); return j },
			"Execute of Batch": func(i api.Image) api.Image { j, _, _ := Execute(i, i.Slot+1, busy); return j },
			"Peek":             func(i api.Image) api.Image { Peek(i, cmd(4, 9, 3, get(0))); return api.Image{} },
			"Encode": func(i api.Image) api.Image {
				b, _ := Encode(i)
				j, _ := Decode(b)
				clear(b)
				return j
			},
		} {
			what := fmt.Sprintf("state %d: %s", n, name)
			asked := roomy(i)
			before := whole(asked)
			answer := call(asked)
			if whole(asked) != before {
				t.Fatalf("%s: what is handed in has changed:\n got %s\nwant %s", what, whole(asked), before)
			}
			text := show(answer)
			spoil(asked, 3)
			if show(answer) != text {
				t.Errorf("%s: the answer hangs on what is handed in:\n got %s\nwant %s", what, show(answer), text)
			}
			asked = roomy(i)
			answer = call(asked)
			wantApart(t, what, answer)
			spoil(answer, 4)
			if whole(asked) != before {
				t.Errorf("%s: what is handed in hangs on the answer:\n got %s\nwant %s", what, whole(asked), before)
			}
		}
	}
	if !slices.Equal(next, []int{1, 2, 3, 4}) {
		t.Error("a Stop's list has changed:", next)
	}
}

func TestValuesAreNotKept(t *testing.T) {
	next, cmds := []int{2, 4, 6}, []api.Cmd{cmd(9, 1, 0, put(0, 2, 1)), cmd(9, 2, 0, put(1, 3, 1))}
	i, _, _ := Execute(First([]int{1, 2, 3}), 1, batch(cmds[:1]...))
	if cmds[1] != cmd(9, 2, 0, put(1, 3, 1)) {
		t.Error("the room behind a Batch's commands has changed")
	}
	j, _, _ := Execute(i, 2, stop(next[:2]...))
	before := show(j)
	clear(cmds)
	clear(next)
	if show(j) != before {
		t.Errorf("the state hangs on the values: %s, was %s", show(j), before)
	}
	j.Members[0] = 7
	_ = append(j.Members, 8)
	if next[0] != 0 || next[2] != 0 {
		t.Error("a Stop's members hang on the state:", next)
	}
}

// P20.2: the errors.

func wantExecute(t *testing.T, i api.Image, slot int, v api.Val, want api.Errno) {
	t.Helper()
	before := show(i)
	j, answers, e := Execute(i, slot, v)
	if e != want {
		t.Errorf("Execute(%s, %d, %v): %d, want %d", before, slot, v, e, want)
	}
	if e != api.OK && (show(j) != show(api.Image{}) || len(answers) != 0) {
		t.Errorf("Execute(%s, %d, %v): beside the error %d: %s, %v", before, slot, v, e, show(j), answers)
	}
	if e == api.OK && !Valid(j) {
		t.Errorf("Execute(%s, %d, %v): not valid: %s", before, slot, v, show(j))
	}
	if show(i) != before {
		t.Errorf("Execute(%s, %d, %v): the state has changed: %s", before, slot, v, show(i))
	}
}

// wrongVals are values that are not right, each with its error.
func wrongVals() map[api.Errno][]api.Val {
	right := cmd(1, 1, 0, get(0))
	return map[api.Errno][]api.Val{
		api.ErrVal: {{Kind: -1}, {Kind: 3}, {Kind: 7}, {Kind: math.MaxInt}, batch(), {Next: []int{1}}, {Cmds: []api.Cmd{right}}, batch(slices.Repeat([]api.Cmd{right}, 9)...), {Kind: api.Stop, Cmds: []api.Cmd{right}, Next: []int{1}}},
		api.ErrSet: {stop(), stop(0), stop(2, 1), stop(10), stop(1, 2, 3, 4, 5, 6, 7, 8)},
		api.ErrCmd: {batch(api.Cmd{}), batch(right, cmd(0, 1, 0, get(0))), batch(cmd(1, 1, 1, get(0)), cmd(1, 1, 0, api.Op{})), batch(cmd(1, api.MaxSeq+1, 0, get(0))), batch(cmd(api.MaxSessNo+1, 1, 0, get(0)))},
		api.ErrOp:  {batch(cmd(1, 1, 0, api.Op{})), batch(right, cmd(1, 2, 0, put(8, 0, 0))), batch(cmd(1, 1, 0, put(0, top+1, 0)), cmd(0, 0, 0, get(0)))},
	}
}

func rightVals() []api.Val {
	return []api.Val{{}, {Cmds: []api.Cmd{}, Next: []int{}}, stop(1), stop(2, 4), stop(1, 2, 3, 4, 5, 6, 7), batch(cmd(1, 1, 0, get(0))), batch(slices.Repeat([]api.Cmd{cmd(4, 7, 6, put(0, 1, 1))}, 8)...)}
}

func TestImageError(t *testing.T) {
	for _, i := range wrongStates() {
		for _, slot := range []int{1, 41, i.Slot, i.Slot + 1, math.MinInt, math.MaxInt} {
			for _, v := range rightVals() {
				wantExecute(t, i, slot, v, api.ErrImage)
			}
			for _, vals := range wrongVals() {
				wantExecute(t, i, slot, vals[0], api.ErrImage)
			}
		}
	}
}

func TestRangeError(t *testing.T) {
	for _, i := range validStates() {
		i.Epoch = min(i.Epoch, api.MaxRound-1)
		for _, slot := range []int{math.MinInt, -1, 0, 1, i.Slot - 1, i.Slot, i.Slot + 1, i.Slot + 2, api.MaxSlot, api.MaxSlot + 1, math.MaxInt} {
			right := slot == i.Slot+1 && slot <= 1<<40
			for _, v := range rightVals() {
				want := api.ErrRange
				if right {
					want = api.OK
				}
				wantExecute(t, i, slot, v, want)
			}
			for e, vals := range wrongVals() {
				for _, v := range vals {
					if !right {
						e = api.ErrRange
					}
					wantExecute(t, i, slot, v, e)
				}
			}
		}
	}
}

func TestLastEpoch(t *testing.T) {
	i := some()
	i.Epoch = api.MaxRound - 1
	wantExecute(t, i, 41, stop(1, 2), api.OK)
	wantExecute(t, i, 41, stop(2, 1), api.ErrSet)
	i, _, _ = Execute(i, 41, stop(1, 2))
	if i.Epoch != 1<<40 {
		t.Error("the epoch is", i.Epoch)
	}
	wantExecute(t, i, 42, stop(1, 2), api.ErrRange)
	// A Stop that isn't right is one all the same.
	wantExecute(t, i, 42, stop(2, 1), api.ErrRange)
	wantExecute(t, i, 42, api.Val{Kind: api.Stop, Cmds: []api.Cmd{{}}}, api.ErrRange)
	wantExecute(t, i, 42, api.Val{}, api.OK)
	wantExecute(t, i, 42, batch(cmd(1, 1, 0, get(0))), api.OK)
	wantExecute(t, i, 42, batch(api.Cmd{}), api.ErrCmd)
}

// P20.2: what comes out.

// wantRun is that a value has these answers, and makes this of the state.
func wantRun(t *testing.T, i api.Image, v api.Val, want api.Image, answers ...api.Answer) {
	t.Helper()
	what := fmt.Sprintf("%v in slot %d", v, i.Slot+1)
	wantExecute(t, i, i.Slot+1, v, api.OK)
	j, got, _ := Execute(i, i.Slot+1, v)
	wantState(t, what, j, want)
	if !slices.Equal(got, answers) {
		t.Errorf("%s: answers %v, want %v", what, got, answers)
	}
}

func answer(no, seq int, r api.Res) api.Answer { return api.Answer{Sess: no, Seq: seq, Res: r} }

func TestNoop(t *testing.T) {
	for _, i := range validStates() {
		if i.Slot == api.MaxSlot {
			continue
		}
		want := Clone(i)
		want.Slot++
		wantRun(t, i, api.Val{}, want)
		wantRun(t, i, api.Val{Cmds: []api.Cmd{}, Next: []int{}}, want)
	}
}

func TestStop(t *testing.T) {
	for _, next := range [][]int{{1}, {2, 5, 9}, {2, 5}, {1, 2, 3, 4, 5, 6, 7}} {
		for _, i := range []api.Image{some(), First([]int{1, 2, 3}), crowded()} {
			want := Clone(i)
			want.Slot, want.Epoch, want.Members = i.Slot+1, i.Epoch+1, next
			wantRun(t, i, stop(next...), want)
		}
	}
}

func TestBatchRuns(t *testing.T) {
	i := some()
	want := Clone(i)
	want.Slot = 41
	want.Regs[4] = api.Reg{Re: 5, Im: 6}
	want.Regs[0], want.Regs[1] = want.Regs[1], want.Regs[0]
	want.Sess = []api.Sess{
		sess(1, 0, kept(1, api.Value, 5, 6)),
		sess(4, 3, kept(4, api.Value, -3, 0), kept(6, api.Over, 0, 0)),
		sess(5, 10, kept(11, api.Over, 0, 0), kept(13, api.Missed, 6, 6)),
		i.Sess[2],
	}
	wantRun(t, i, batch(
		cmd(1, 1, 0, put(4, 5, 6)),
		cmd(4, 4, 3, api.Op{Kind: api.Swap, Reg: 0, To: 1}),
		cmd(5, 11, 9, api.Op{Kind: api.Add, Reg: 3, Re: 1}),
		cmd(5, 13, 10, api.Op{Kind: api.Take, Reg: 5, To: 1, Re: 6, Im: 7}),
	), want, answer(1, 1, res(api.Value, 5, 6)), answer(4, 4, res(api.Value, -3, 0)), answer(5, 11, res(api.Over, 0, 0)), answer(5, 13, res(api.Missed, 6, 6)))
}

// What Ask answers is the answer, and then nothing is run.
func TestBatchAnswersWithoutRunning(t *testing.T) {
	i := some()
	want := Clone(i)
	want.Slot, want.Sess[2].Ack = 41, 2
	wantRun(t, i, batch(
		cmd(4, 3, 0, put(0, 99, 99)), cmd(4, 6, 2, put(0, 99, 99)), cmd(4, 2, 1, put(0, 99, 99)), cmd(5, 9, 0, put(0, 99, 99)), cmd(900, 2, 0, put(0, 99, 99)), cmd(900, 11, 2, put(0, 99, 99)),
	), want,
		answer(4, 3, res(api.Value, 7, 8)), answer(4, 6, res(api.Over, 0, 0)), answer(4, 2, res(api.Stale, 0, 0)), answer(5, 9, res(api.Stale, 0, 0)), answer(900, 2, res(api.Unheard, 0, 0)), answer(900, 11, res(api.Unheard, 0, 0)))

	i = crowded()
	want = Clone(i)
	want.Slot, want.Regs[2] = 1, api.Reg{Re: 1, Im: 1}
	want.Sess[3].Kept = []api.Kept{kept(6, api.Value, 1, 1)}
	wantRun(t, i, batch(cmd(11, 1, 0, put(1, 3, 3)), cmd(40, 6, 5, put(2, 1, 1)), cmd(1, 7, 6, put(1, 3, 3))),
		want, answer(11, 1, res(api.Crowded, 0, 0)), answer(40, 6, res(api.Value, 1, 1)), answer(1, 7, res(api.Crowded, 0, 0)))
}

// One command may stand twice in one value, and what comes ahead in it counts.
func TestBatchInOrder(t *testing.T) {
	add := api.Op{Kind: api.Add, Reg: 0, Re: 1}
	i := First([]int{1})
	want := First([]int{1})
	want.Slot, want.Regs[0] = 1, api.Reg{Re: 2}
	want.Sess = []api.Sess{sess(9, 1, kept(2, api.Value, 2, 0))}
	wantRun(t, i, batch(cmd(9, 1, 0, add), cmd(9, 1, 0, add), cmd(9, 2, 0, add), cmd(9, 2, 1, add), cmd(9, 1, 0, add), cmd(9, 2, 0, put(0, 7, 7))), want,
		answer(9, 1, res(api.Value, 1, 0)), answer(9, 1, res(api.Value, 1, 0)), answer(9, 2, res(api.Value, 2, 0)), answer(9, 2, res(api.Value, 2, 0)), answer(9, 1, res(api.Stale, 0, 0)), answer(9, 2, res(api.Value, 2, 0)))
}

func TestAnswersAreNewMemory(t *testing.T) {
	i := First([]int{1})
	v := batch(cmd(9, 1, 0, put(0, 1, 1)), cmd(9, 2, 0, put(0, 2, 2)))
	_, a, _ := Execute(i, 1, v)
	_, b, _ := Execute(i, 1, v)
	a[0], a[1] = api.Answer{}, api.Answer{}
	if b[0] != answer(9, 1, res(api.Value, 1, 1)) || v.Cmds[0].Sess != 9 {
		t.Error("two answers meet")
	}
}

// P20.3

func wantPeek(t *testing.T, i api.Image, c api.Cmd, want api.Res, can bool) {
	t.Helper()
	before := show(i)
	if r, ok := Peek(i, c); r != want || ok != can {
		t.Errorf("Peek(%s, %v) = %v, %v, want %v, %v", before, c, r, ok, want, can)
	}
	if show(i) != before {
		t.Errorf("Peek(%v) has changed the state: %s, was %s", c, show(i), before)
	}
}

func TestPeek(t *testing.T) {
	i := some()
	for reg, r := range i.Regs {
		for _, c := range []api.Cmd{cmd(1, 1, 0, get(reg)), cmd(4, 4, 2, get(reg)), cmd(900, 11, 3, get(reg)), cmd(5, 10, 9, get(reg)), cmd(api.MaxSessNo, api.MaxSeq, 0, get(reg))} {
			wantPeek(t, i, c, res(api.Value, r.Re, r.Im), true)
		}
	}
	// Where it is not to be run, the answer is what Ask answers.
	wantPeek(t, i, cmd(4, 3, 0, get(1)), res(api.Value, 7, 8), true)
	wantPeek(t, i, cmd(4, 6, 5, get(1)), res(api.Over, 0, 0), true)
	wantPeek(t, i, cmd(4, 2, 0, get(1)), res(api.Stale, 0, 0), true)
	wantPeek(t, i, cmd(900, 11, 2, get(1)), res(api.Unheard, 0, 0), true)
	wantPeek(t, crowded(), cmd(15, 1, 0, get(1)), res(api.Crowded, 0, 0), true)
	wantPeek(t, crowded(), cmd(20, 6, 0, get(1)), res(api.Value, 0, 0), true)
}

// A state in whose last slot there is no next one to execute in can be read all the same.
func TestPeekInTheLastSlot(t *testing.T) {
	i := some()
	i.Slot = api.MaxSlot
	wantPeek(t, i, cmd(1, 1, 0, get(0)), res(api.Value, 1, 2), true)
	wantPeek(t, i, cmd(4, 3, 0, get(0)), res(api.Value, 7, 8), true)
}

func TestPeekNothing(t *testing.T) {
	right := cmd(1, 1, 0, get(0))
	for _, i := range wrongStates() {
		wantPeek(t, i, right, api.Res{}, false)
	}
	for _, i := range validStates() {
		for _, no := range []int{math.MinInt, -1, 0, api.MaxSessNo + 1, math.MaxInt} {
			wantPeek(t, i, cmd(no, 1, 0, get(0)), api.Res{}, false)
		}
		for _, seq := range []int{math.MinInt, -1, 0, api.MaxSeq + 1, math.MaxInt} {
			wantPeek(t, i, cmd(1, seq, 0, get(0)), api.Res{}, false)
		}
		for _, ack := range []int{math.MinInt, -1, 3, 4, math.MaxInt} {
			wantPeek(t, i, cmd(1, 3, ack, get(0)), api.Res{}, false)
		}
		for _, o := range []api.Op{{}, {Kind: 8}, {Kind: -1}, get(-1), get(8), {Kind: api.Get, To: 1}, {Kind: api.Get, Re: 1}, {Kind: api.Get, Im: 1}, put(0, 0, 0), {Kind: api.Add}, {Kind: api.Mul}, {Kind: api.Turn}, {Kind: api.Swap}, {Kind: api.Take}} {
			wantPeek(t, i, cmd(1, 1, 0, o), api.Res{}, false)
		}
	}
}

// P20.4

// numbers are the numbers of a state, in the order in which they are written.
func numbers(i api.Image) []int {
	list := append([]int{i.Epoch, i.Slot, len(i.Members)}, i.Members...)
	for _, r := range i.Regs {
		list = append(list, r.Re, r.Im)
	}
	list = append(list, len(i.Sess))
	for _, s := range i.Sess {
		list = append(list, s.No, s.Ack, len(s.Kept))
		for _, k := range s.Kept {
			list = append(list, k.Seq, k.Res.Kind, k.Res.Re, k.Res.Im)
		}
	}
	return list
}

func written(list ...int) []byte {
	w := pack.NewWriter()
	for _, n := range list {
		w.Int(n)
	}
	return w.Bytes()
}

func TestEncodeBytes(t *testing.T) {
	i := api.Image{Epoch: 1, Members: []int{2, 3}, Slot: 128, Sess: []api.Sess{sess(5, 1, kept(3, 1, -1, 1))}}
	i.Regs[0], i.Regs[7] = api.Reg{Re: -2, Im: 2}, api.Reg{Im: -128}
	want := []byte{1, 2, 2, 1, 0, 1, 4, 1, 4, 1, 6, 1, 3, 1, 4, 0, 0, 0, 0, 0, 0, 0, 0, 0, 0, 0, 0, 0, 1, 255, 1, 2, 1, 10, 1, 2, 1, 2, 1, 6, 1, 2, 1, 1, 1, 2}
	if b, e := Encode(i); e != api.OK || !bytes.Equal(b, want) {
		t.Errorf("Encode: %v, %d, want %v", b, e, want)
	}
}

func TestThereAndBack(t *testing.T) {
	for _, i := range validStates() {
		b, e := Encode(i)
		if e != api.OK || !bytes.Equal(b, written(numbers(i)...)) {
			t.Errorf("Encode(%s): %v, %d", show(i), b, e)
		}
		if len(b) > api.MaxImage {
			t.Errorf("%d bytes are more than %d", len(b), api.MaxImage)
		}
		j, e := Decode(b)
		if e != api.OK {
			t.Errorf("Decode of %s: %d", show(i), e)
		}
		wantState(t, "there and back", j, i)
	}
}

func wantNoState(t *testing.T, what string, b []byte) {
	t.Helper()
	if i, e := Decode(b); e != api.ErrImage || show(i) != show(api.Image{}) {
		t.Errorf("Decode of %s: %d, %s", what, e, show(i))
	}
}

func TestNoStates(t *testing.T) {
	for _, i := range wrongStates() {
		if b, e := Encode(i); e != api.ErrImage || len(b) != 0 {
			t.Errorf("Encode(%s): %v, %d", show(i), b, e)
		}
		wantNoState(t, show(i), written(numbers(i)...))
	}
}

func TestDecodeNothing(t *testing.T) {
	wantNoState(t, "nil", nil)
	wantNoState(t, "nothing", []byte{})
	for _, n := range []int{1, 19, 100, api.MaxImage, api.MaxImage + 1, 1 << 20} {
		for _, b := range []byte{0, 1, 9, 255} {
			wantNoState(t, fmt.Sprintf("%d times %d", n, b), bytes.Repeat([]byte{b}, n))
		}
	}
	for _, i := range validStates() {
		b, _ := Encode(i)
		for n := range b {
			wantNoState(t, "the beginning", b[:n])
		}
		wantNoState(t, "a byte more", append(bytes.Clone(b), 0))
		wantNoState(t, "twice the same", append(bytes.Clone(b), b...))
		wantNoState(t, "up to MaxImage", append(bytes.Clone(b), make([]byte, api.MaxImage-len(b))...))
		wantNoState(t, "more than MaxImage", append(bytes.Clone(b), make([]byte, api.MaxImage-len(b)+1)...))
	}
}

// counts are the places of the counts among the numbers of a state.
func counts(i api.Image) []int {
	at := 3 + len(i.Members) + 2*api.Regs
	list := []int{2, at}
	at++
	for _, s := range i.Sess {
		list = append(list, at+2)
		at += 3 + 4*len(s.Kept)
	}
	return list
}

func TestWrongCounts(t *testing.T) {
	for _, i := range validStates() {
		for _, at := range counts(i) {
			list := numbers(i)
			right := list[at]
			for _, n := range []int{math.MinInt, math.MinInt + 1, -17, -8, -7, -2, -1, right - 1, right + 1, 8, 9, 16, 17, 1000, 1 << 31, 1 << 62, math.MaxInt} {
				if n == right {
					continue
				}
				list[at] = n
				wantNoState(t, fmt.Sprintf("%s with %d for the count at %d", show(i), n, at), written(list...))
			}
		}
	}
}

// A count below 0, as if of no elements, would be a second form of the same state.
func TestNegativeCountsOfNothing(t *testing.T) {
	i := First([]int{1})
	for _, n := range []int{math.MinInt, -1} {
		list := numbers(i)
		list[len(list)-1] = n
		wantNoState(t, "a negative number of sessions", written(list...))
	}
	i.Sess = []api.Sess{sess(1, 0)}
	list := numbers(i)
	list[len(list)-1] = -1
	wantNoState(t, "a negative number of replies", written(list...))
}

// More elements than there may be, all of them there.
func TestTooMany(t *testing.T) {
	i := First([]int{1, 2, 3, 4, 5, 6, 7, 8})
	wantNoState(t, "eight members", written(numbers(i)...))
	i = crowded()
	i.Sess = append(i.Sess, sess(1000, 0))
	wantNoState(t, "17 sessions", written(numbers(i)...))
	i = First([]int{1})
	i.Sess = []api.Sess{sess(1, 0, append(eight(1), kept(9, 1, 0, 0))...)}
	wantNoState(t, "nine replies", written(numbers(i)...))
}

// wantOneForm is that bytes which are taken are just those that would be written.
func wantOneForm(t *testing.T, b []byte) {
	t.Helper()
	given := bytes.Clone(b)
	i, e := Decode(b)
	if !bytes.Equal(b, given) {
		t.Errorf("Decode has changed its bytes")
	}
	if e != api.OK {
		if e != api.ErrImage || show(i) != show(api.Image{}) {
			t.Errorf("Decode(%v): %d, %s", b, e, show(i))
		}
		return
	}
	if !Valid(i) {
		t.Errorf("Decode(%v) is not valid: %s", b, show(i))
	}
	if again, e := Encode(i); e != api.OK || !bytes.Equal(again, b) {
		t.Errorf("Decode(%v) is written as %v, %d", b, again, e)
	}
}

func TestOneForm(t *testing.T) {
	rnd := rand.New(rand.NewSource(20))
	for _, i := range validStates() {
		b, _ := Encode(i)
		for at := range b {
			for range 8 {
				c := bytes.Clone(b)
				c[at] = byte(rnd.Intn(256))
				wantOneForm(t, c)
			}
			wantOneForm(t, slices.Delete(bytes.Clone(b), at, at+1))
			wantOneForm(t, slices.Insert(bytes.Clone(b), at, byte(rnd.Intn(10))))
		}
	}
}

func FuzzDecode(f *testing.F) {
	for _, i := range validStates() {
		b, _ := Encode(i)
		f.Add(b)
	}
	f.Fuzz(wantOneForm)
}

// P20.5: against a plain model, which runs the commands on registers of its own, and counts how often each is run.

type modelSess struct {
	ack  int
	kept map[int]api.Res
}

type model struct {
	epoch, slot int
	members     []int
	regs        app.State
	sessions    map[int]*modelSess
	ran         map[[2]int]bool
}

func newModel(members []int) *model {
	return &model{members: members, sessions: map[int]*modelSess{}, ran: map[[2]int]bool{}}
}

func (m *model) command(t *testing.T, c api.Cmd) api.Res {
	s := m.sessions[c.Sess]
	if s == nil {
		if len(m.sessions) == 16 {
			return res(api.Crowded, 0, 0)
		}
		s = &modelSess{kept: map[int]api.Res{}}
		m.sessions[c.Sess] = s
	}
	s.ack = max(s.ack, c.Ack)
	for seq := range s.kept {
		if seq <= s.ack {
			delete(s.kept, seq)
		}
	}
	if c.Seq <= s.ack {
		return res(api.Stale, 0, 0)
	}
	if r, there := s.kept[c.Seq]; there {
		return r
	}
	if len(s.kept) == 8 {
		return res(api.Unheard, 0, 0)
	}
	if m.ran[[2]int{c.Sess, c.Seq}] {
		t.Errorf("%v is run twice", c)
	}
	m.ran[[2]int{c.Sess, c.Seq}] = true
	regs, r := app.Apply(m.regs, c.Op)
	m.regs, s.kept[c.Seq] = regs, r
	return r
}

func (m *model) execute(t *testing.T, v api.Val) []api.Answer {
	m.slot++
	var answers []api.Answer
	switch v.Kind {
	case api.Stop:
		m.epoch++
		m.members = v.Next
	case api.Batch:
		for _, c := range v.Cmds {
			answers = append(answers, answer(c.Sess, c.Seq, m.command(t, c)))
		}
	}
	return answers
}

// image is what the model holds, as a state.
func (m *model) image() api.Image {
	i := api.Image{Epoch: m.epoch, Members: m.members, Slot: m.slot, Regs: m.regs}
	for no, s := range m.sessions {
		var list []api.Kept
		for seq, r := range s.kept {
			list = append(list, api.Kept{Seq: seq, Res: r})
		}
		slices.SortFunc(list, func(a, b api.Kept) int { return a.Seq - b.Seq })
		i.Sess = append(i.Sess, sess(no, s.ack, list...))
	}
	slices.SortFunc(i.Sess, func(a, b api.Sess) int { return a.No - b.No })
	return i
}

// feed makes numbers out of bytes, zeros behind their end.
type feed []byte

func (f *feed) upTo(n int) int {
	if len(*f) == 0 {
		return 0
	}
	b := int((*f)[0])
	*f = (*f)[1:]
	return b % n
}

func (f *feed) op() api.Op {
	o := api.Op{Kind: api.Get + f.upTo(api.Take), Reg: f.upTo(api.Regs)}
	part := func() int { return []int{0, 1, -1, 2, 1024, top, -top, 77}[f.upTo(8)] }
	switch o.Kind {
	case api.Put, api.Add, api.Mul:
		o.Re, o.Im = part(), part()
	case api.Turn:
		o.To = f.upTo(4)
	case api.Swap:
		o.To = f.upTo(8)
	case api.Take:
		o.To, o.Re, o.Im = f.upTo(8), part(), part()
	}
	return o
}

// value is a right value, whose commands are mostly near what their sessions have got to.
func (f *feed) value(m *model, sessions int) api.Val {
	switch f.upTo(12) {
	case 0:
		return api.Val{}
	case 1:
		return stop(slices.Compact([]int{1 + f.upTo(3), 3 + f.upTo(4), 6 + f.upTo(4)})...)
	}
	v := batch()
	for range 1 + f.upTo(api.MaxCmds) {
		no, ack := 1+f.upTo(sessions), 0
		if s := m.sessions[no]; s != nil {
			ack = s.ack
		}
		seq := max(1, ack-1+f.upTo(12))
		if f.upTo(4) == 0 {
			ack += f.upTo(8)
		}
		v.Cmds = append(v.Cmds, cmd(no, seq, min(seq-1, ack), f.op()))
	}
	return v
}

// wantPeeks is that Peek answers as Execute would.
func wantPeeks(t *testing.T, i api.Image, c api.Cmd) {
	t.Helper()
	c.Op = get(c.Op.Reg)
	_, answers, e := Execute(i, i.Slot+1, batch(c))
	if r, can := Peek(i, c); e != api.OK || !can || answers[0].Res != r {
		t.Errorf("Peek(%s, %v) = %v, %v, want %v", show(i), c, r, can, answers)
	}
}

// against runs two executors and a model side by side, by what the bytes say, and answers how often each kind of result came.
func against(t *testing.T, b []byte) map[int]int {
	f := feed(b)
	sessions := 1 + f.upTo(20)
	i, m := First([]int{1, 2, 3}), newModel([]int{1, 2, 3})
	other := First([]int{1, 2, 3})
	met := map[int]int{}
	for len(f) > 0 {
		v := f.value(m, sessions)
		if value.Check(v) != api.OK {
			t.Fatalf("%v is not right", v)
		}
		for _, c := range v.Cmds[:min(1, len(v.Cmds))] {
			wantPeeks(t, i, c)
		}
		made, answers, e := Execute(i, i.Slot+1, v)
		wanted := m.execute(t, v)
		if e != api.OK || !slices.Equal(answers, wanted) || show(made) != show(m.image()) || !Valid(made) {
			t.Fatalf("%v: %d, valid %v\n got %s %v\nwant %s %v", v, e, Valid(made), show(made), answers, show(m.image()), wanted)
		}
		i = made
		// The other one has its state from a checkpoint.
		again, sameAnswers, e := Execute(other, other.Slot+1, v)
		if e != api.OK || show(again) != show(i) || !slices.Equal(sameAnswers, answers) {
			t.Fatalf("%v: another executor makes %s %v, not %s %v", v, show(again), sameAnswers, show(i), answers)
		}
		saved, e1 := Encode(again)
		restored, e2 := Decode(saved)
		if e1 != api.OK || e2 != api.OK || len(saved) > api.MaxImage {
			t.Fatalf("there and back: %d, %d, %d bytes", e1, e2, len(saved))
		}
		other = restored
		for _, a := range answers {
			met[a.Res.Kind]++
		}
	}
	return met
}

func TestAgainstModel(t *testing.T) {
	rnd := rand.New(rand.NewSource(205))
	met := map[int]int{}
	for range 150 {
		b := make([]byte, rnd.Intn(4000))
		rnd.Read(b)
		for kind, n := range against(t, b) {
			met[kind] += n
		}
	}
	for _, kind := range []int{api.Value, api.Over, api.Missed, api.Stale, api.Crowded, api.Unheard} {
		if met[kind] < 50 {
			t.Errorf("results of kind %d: only %d", kind, met[kind])
		}
	}
	if len(met) != 6 {
		t.Errorf("results met: %v", met)
	}
}

func FuzzAgainstModel(f *testing.F) {
	f.Add([]byte("executes decided values: on the registers, the sessions and the membership"))
	f.Fuzz(func(t *testing.T, b []byte) { against(t, b) })
}

// What a state keeps of sessions is layer 19's table.
func TestTheTableIsTheSessions(t *testing.T) {
	i := some()
	c := cmd(4, 9, 3, put(0, 1, 1))
	want, _, _ := session.Table(i.Sess).Ask(c)
	want = want.Keep(c, res(api.Value, 1, 1))
	j, _, _ := Execute(i, 41, batch(c))
	wantState(t, "the sessions", api.Image{Sess: j.Sess}, api.Image{Sess: want})
}

// The chapter's example.
func TestExample(t *testing.T) {
	v := batch(cmd(9, 1, 0, put(0, 2, 1)))
	want := answer(9, 1, res(api.Value, 2, 1))
	i := First([]int{1, 2, 3})
	j, answers, e := Execute(i, 1, v)
	if e != api.OK || !slices.Equal(answers, []api.Answer{want}) {
		t.Fatal("slot 1:", answers, e)
	}
	k, answers, e := Execute(j, 2, v)
	if e != api.OK || !slices.Equal(answers, []api.Answer{want}) {
		t.Fatal("slot 2:", answers, e)
	}
	j.Slot = 2
	wantState(t, "the same again", k, j)
	l, answers, e := Execute(k, 3, stop(2, 4))
	if e != api.OK || len(answers) != 0 {
		t.Fatal("slot 3:", answers, e)
	}
	k.Slot, k.Epoch, k.Members = 3, 1, []int{2, 4}
	wantState(t, "the Stop", l, k)
}
