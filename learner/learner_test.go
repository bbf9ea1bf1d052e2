package learner

import (
	"fmt"
	"math"
	"math/rand"
	"slices"
	"strings"
	"testing"

	"synod/api"
	"synod/value"
)

// Some values.
var (
	noop = api.Val{}
	stop = api.Val{Kind: api.Stop, Next: []int{1, 2}}
	fin  = api.Val{Kind: api.Stop, Next: []int{1, 3}}
)

// batchOf is a batch of one command of a session.
func batchOf(sess int) api.Val {
	op := api.Op{Kind: api.Put, Reg: 2, Re: 3, Im: -4}
	return api.Val{Kind: api.Batch, Cmds: []api.Cmd{{Sess: sess, Seq: 2, Ack: 1, Op: op}}}
}

// wrongVals are no values, each of another kind of wrong.
func wrongVals() []api.Val {
	sharp, unop := batchOf(1), batchOf(1)
	sharp.Cmds[0].Ack, unop.Cmds[0].Op.Reg = 2, api.Regs
	return []api.Val{
		{Kind: 3}, {Kind: -1}, {Kind: math.MinInt}, {Kind: math.MaxInt}, {Next: []int{1}}, {Cmds: batchOf(1).Cmds},
		{Kind: api.Batch}, {Kind: api.Batch, Cmds: batchOf(1).Cmds, Next: []int{1}}, {Kind: api.Batch, Cmds: slices.Repeat(batchOf(1).Cmds, 9)},
		{Kind: api.Stop}, {Kind: api.Stop, Next: []int{2, 1}}, {Kind: api.Stop, Next: []int{1}, Cmds: batchOf(1).Cmds}, sharp, unop,
	}
}

func bal(round, node int) api.Bal { return api.Bal{Round: round, Node: node} }

func vote(slot, round, node int, v api.Val) api.Vote {
	return api.Vote{Slot: slot, Bal: bal(round, node), Val: v}
}

// made is a learner with what New asks for.
func made(t *testing.T, members []int, from int) *Learner {
	t.Helper()
	l := New(members, from)
	if l == nil {
		t.Fatalf("New(%v, %d) is nil", members, from)
	}
	return l
}

func tellVal(v api.Val) string {
	switch {
	case value.Same(v, noop):
		return "noop"
	case v.Kind == api.Stop:
		return fmt.Sprint("stop", v.Next)
	case len(v.Cmds) == 1 && value.Same(v, batchOf(v.Cmds[0].Sess)):
		return fmt.Sprint("batch", v.Cmds[0].Sess)
	}
	return fmt.Sprintf("%+v", v)
}

// tell is what a learner tells of the slots around its next one, as a text.
func tell(l *Learner) string {
	next, v, there := l.Next()
	all := []string{fmt.Sprint("next ", next)}
	if known, is := l.Known(next); is != there || tellVal(v) != tellVal(known) {
		all = append(all, fmt.Sprint("but Next ", there, tellVal(v)))
	}
	for slot := next - 150; slot <= next+150; slot++ {
		if v, is := l.Known(slot); is {
			all = append(all, fmt.Sprint(slot, ":", tellVal(v)))
		} else if tellVal(v) != "noop" {
			all = append(all, fmt.Sprint("but unknown ", slot, ":", tellVal(v)))
		}
	}
	return strings.Join(append(all, fmt.Sprint("missing ", len(l.Missing(math.MaxInt)), " size ", l.Size())), " ")
}

func wantState(t *testing.T, l *Learner, want string) {
	t.Helper()
	if got := tell(l); got != want {
		t.Errorf("the state is %q, want %q", got, want)
	}
}

func wantBool(t *testing.T, what string, got, want bool) {
	t.Helper()
	if got != want {
		t.Errorf("%s = %v, want %v", what, got, want)
	}
}

// P15.1: New.

func TestNew(t *testing.T) {
	for _, members := range [][]int{{1}, {9}, {1, 2, 3}, {2, 5, 9}, {3, 4, 5, 6, 7, 8, 9}} {
		for _, from := range []int{1, 2, 1000, api.MaxSlot - 1, api.MaxSlot} {
			wantState(t, made(t, members, from), fmt.Sprintf("next %d missing 0 size 0", from))
		}
		for _, from := range []int{0, -1, math.MinInt, api.MaxSlot + 1, math.MaxInt} {
			if New(members, from) != nil {
				t.Errorf("New(%v, %d) isn't nil", members, from)
			}
		}
	}
	for _, members := range [][]int{nil, {}, {0}, {10}, {-1}, {math.MaxInt}, {1, 1}, {2, 1}, {0, 1}, {9, 10}, {1, 2, 3, 4, 5, 6, 7, 8}, make([]int, 1000)} {
		if New(members, 1) != nil {
			t.Errorf("New(%v, 1) isn't nil", members)
		}
	}
}

// P15.1: which slots are open, for a vote as for what is told.
func TestOpen(t *testing.T) {
	const most = api.MaxSlot
	for _, c := range []struct{ from, first, last int }{
		{1, 1, 128}, {2, 2, 129}, {1000, 1000, 1127},
		{most - 128, most - 128, most - 1}, {most - 127, most - 127, most}, {most - 126, most - 126, most}, {most - 1, most - 1, most}, {most, most, most},
	} {
		for _, slot := range []int{
			math.MinInt, math.MinInt + 1, -1, 0, 1, c.first - 1, c.first, c.first + 1, c.first + 63, c.first + 64, c.last - 1, c.last, c.last + 1,
			c.first + 127, c.first + 128, most, most + 1, math.MaxInt - 1, math.MaxInt,
		} {
			want := c.first <= slot && slot <= c.last
			name := fmt.Sprintf("from %d, slot %d", c.from, slot)
			wantBool(t, name+", Voted", made(t, []int{4}, c.from).Voted(4, vote(slot, 1, 1, noop)), want)
			wantBool(t, name+", Told", made(t, []int{4}, c.from).Told(slot, noop), want)
			l := made(t, []int{1, 2}, c.from)
			l.Voted(1, vote(slot, 1, 1, noop))
			if heard := l.Size() == 1; heard != want || len(l.Missing(math.MaxInt)) == 0 == want {
				t.Errorf("%s: a vote is kept: %v, missing %v", name, heard, l.Missing(math.MaxInt))
			}
		}
	}
}

// A slot that is decided isn't open, whether it was passed or not, or trimmed.
func TestDecidedIsNotOpen(t *testing.T) {
	l := made(t, []int{1, 2}, 5)
	closed := func(state string) {
		t.Helper()
		wantState(t, l, state)
		for _, slot := range []int{5, 6} {
			wantBool(t, "Told", l.Told(slot, stop), false)
			wantBool(t, "Voted by 1", l.Voted(1, vote(slot, 9, 9, stop)), false)
			wantBool(t, "Voted by 2", l.Voted(2, vote(slot, 9, 9, stop)), false)
		}
		wantState(t, l, state)
	}
	wantBool(t, "Told 6", l.Told(6, noop), true)
	wantBool(t, "Voted by 1", l.Voted(1, vote(5, 1, 1, noop)), false)
	wantBool(t, "Voted by 2", l.Voted(2, vote(5, 1, 1, noop)), true)
	closed("next 5 5:noop 6:noop missing 0 size 2")
	l.Pass()
	closed("next 6 5:noop 6:noop missing 0 size 2")
	l.Pass()
	closed("next 7 5:noop 6:noop missing 0 size 2")
	l.Trim(6)
	closed("next 7 missing 0 size 0")
}

// P15.2: Voted.

func TestVotedRefused(t *testing.T) {
	for _, from := range []int{1, 7} {
		l := made(t, []int{2, 4, 6}, from)
		state := fmt.Sprintf("next %d missing 0 size 0", from)
		refused := func(what string, node int, v api.Vote) {
			t.Helper()
			wantBool(t, what, l.Voted(node, v), false)
			wantState(t, l, state)
		}
		for _, node := range []int{1, 3, 5, 7, 9, 0, -1, 10, math.MinInt, math.MaxInt} {
			refused(fmt.Sprint("node ", node), node, vote(8, 1, 1, noop))
		}
		for _, b := range []api.Bal{{}, bal(0, 1), bal(1, 0), bal(-1, 1), bal(1, -1), bal(1, 10), bal(api.MaxRound+1, 1), bal(math.MaxInt, 1), bal(math.MinInt, 1), bal(1, math.MaxInt)} {
			refused(fmt.Sprint("ballot ", b), 2, api.Vote{Slot: 8, Bal: b})
		}
		for _, v := range wrongVals() {
			refused(fmt.Sprintf("value %+v", v), 2, vote(8, 1, 1, v))
		}
		for _, slot := range []int{from - 1, from + 128, 0, math.MinInt, math.MaxInt} {
			refused(fmt.Sprint("slot ", slot), 2, vote(slot, 1, 1, noop))
		}
		// None of those was kept: two of three are still needed.
		for i, node := range []int{2, 4} {
			wantBool(t, "a right one", l.Voted(node, vote(8, api.MaxRound, 9, noop)), i == 1)
		}
		wantState(t, l, fmt.Sprintf("next %d 8:noop missing %d size 1", from, 8-from))
	}
}

// A vote that is refused takes nothing back that is kept.
func TestVotedRefusedKeeps(t *testing.T) {
	l := made(t, []int{2, 4, 6}, 1)
	l.Voted(2, vote(3, 5, 5, stop))
	for _, v := range wrongVals() {
		wantBool(t, "a wrong value", l.Voted(2, vote(3, 6, 6, v)), false)
	}
	wantBool(t, "no ballot", l.Voted(2, vote(3, api.MaxRound+1, 1, noop)), false)
	wantBool(t, "no member", l.Voted(3, vote(3, 5, 5, stop)), false)
	wantBool(t, "the second of it", l.Voted(6, vote(3, 5, 5, stop)), true)
	wantState(t, l, "next 1 3:stop[1 2] missing 2 size 1")
}

// How many members decide, in every set of them that votes.
func TestQuorums(t *testing.T) {
	all := []int{2, 3, 4, 5, 7, 8, 9}
	for size := 1; size <= 7; size++ {
		for bits := range 1 << size {
			l := made(t, all[:size], 1)
			count := 0
			for i := range size {
				if bits>>i&1 == 0 {
					continue
				}
				count++
				name := fmt.Sprintf("of %d members vote %b: number %d", size, bits, count)
				wantBool(t, name, l.Voted(all[i], vote(1, 3, 3, stop)), count == size/2+1)
				// A second time counts for nothing.
				wantBool(t, name+" again", l.Voted(all[i], vote(1, 3, 3, stop)), false)
			}
			if _, _, decided := l.Next(); decided != (2*count > size) {
				t.Errorf("of %d members vote %b: decided %v", size, bits, decided)
			}
		}
	}
}

// Votes, in their order, and which of them decides.
func TestVoted(t *testing.T) {
	type said struct {
		node int
		vote api.Vote
	}
	same := func(slot, round, node int, v api.Val, voters ...int) []said {
		var all []said
		for _, voter := range voters {
			all = append(all, said{voter, vote(slot, round, node, v)})
		}
		return all
	}
	for _, c := range []struct {
		name    string
		members []int
		votes   [][]said
		decides int // which one, from 1 on; 0: none
		want    string
	}{
		{"one member", []int{5}, [][]said{same(1, 1, 1, stop, 5)}, 1, "next 1 1:stop[1 2] missing 0 size 1"},
		{"two of three", []int{1, 2, 3}, [][]said{same(4, 1, 1, batchOf(7), 3, 1)}, 2, "next 1 4:batch7 missing 3 size 1"},
		{"a ballot of no member", []int{1, 2, 3}, [][]said{same(1, 1, 9, noop, 3, 1)}, 2, "next 1 1:noop missing 0 size 1"},
		{"one, again and again", []int{1, 2, 3}, [][]said{same(1, 1, 1, noop, 1, 1, 1, 1)}, 0, "next 1 missing 1 size 1"},
		{"two values of one ballot", []int{1, 2, 3}, [][]said{same(1, 1, 1, noop, 1), same(1, 1, 1, stop, 2)}, 0, "next 1 missing 1 size 1"},
		{"two stops of one ballot", []int{1, 2, 3}, [][]said{same(1, 1, 1, fin, 1), same(1, 1, 1, stop, 2)}, 0, "next 1 missing 1 size 1"},
		{"two batches of one ballot", []int{1, 2, 3}, [][]said{same(1, 1, 1, batchOf(1), 1), same(1, 1, 1, batchOf(2), 2)}, 0, "next 1 missing 1 size 1"},
		{"two values, the third decides", []int{1, 2, 3}, [][]said{same(1, 1, 1, noop, 1), same(1, 1, 1, stop, 2, 3)}, 3, "next 1 1:stop[1 2] missing 0 size 1"},
		{"one value of two rounds", []int{1, 2, 3}, [][]said{same(1, 1, 1, noop, 1), same(1, 2, 1, noop, 2)}, 0, "next 1 missing 1 size 1"},
		{"one value of two nodes", []int{1, 2, 3}, [][]said{same(1, 1, 1, noop, 1), same(1, 1, 2, noop, 2)}, 0, "next 1 missing 1 size 1"},
		{"two slots", []int{1, 2, 3}, [][]said{same(1, 1, 1, noop, 1), same(2, 1, 1, noop, 2)}, 0, "next 1 missing 2 size 2"},
		{"a higher ballot takes the place", []int{1, 2, 3}, [][]said{same(1, 1, 1, noop, 1), same(1, 2, 1, noop, 1, 2)}, 3, "next 1 1:noop missing 0 size 1"},
		{"and the lower one counts no more", []int{1, 2, 3}, [][]said{same(1, 1, 1, noop, 1), same(1, 2, 1, stop, 1), same(1, 1, 1, noop, 2)}, 0, "next 1 missing 1 size 1"},
		{"a higher node takes the place", []int{1, 2, 3}, [][]said{same(1, 1, 1, noop, 1), same(1, 1, 2, stop, 1), same(1, 1, 1, noop, 2)}, 0, "next 1 missing 1 size 1"},
		{"a lower ballot does not", []int{1, 2, 3}, [][]said{same(1, 2, 1, stop, 1), same(1, 1, 9, noop, 1, 2)}, 0, "next 1 missing 1 size 1"},
		{"and the higher one counts on", []int{1, 2, 3}, [][]said{same(1, 2, 1, stop, 1), same(1, 1, 9, noop, 1), same(1, 2, 1, stop, 3)}, 3, "next 1 1:stop[1 2] missing 0 size 1"},
		{"a lower node does not", []int{1, 2, 3}, [][]said{same(1, 1, 2, stop, 1), same(1, 1, 1, noop, 1), same(1, 1, 2, stop, 3)}, 3, "next 1 1:stop[1 2] missing 0 size 1"},
		{"another value of the same ballot does not", []int{1, 2, 3}, [][]said{same(1, 1, 1, stop, 1), same(1, 1, 1, noop, 1, 2), same(1, 1, 1, stop, 3)}, 4, "next 1 1:stop[1 2] missing 0 size 1"},
		{"a lower ballot decides as well", []int{1, 2, 3}, [][]said{same(1, 2, 1, stop, 1), same(1, 1, 1, noop, 2, 3)}, 3, "next 1 1:noop missing 0 size 1"},
		{"two of four are too few", []int{1, 2, 3, 4}, [][]said{same(1, 1, 1, noop, 1, 2)}, 0, "next 1 missing 1 size 1"},
		{"three of four", []int{1, 2, 3, 4}, [][]said{same(1, 1, 1, noop, 4, 3, 2)}, 3, "next 1 1:noop missing 0 size 1"},
		{"three of five, over others", []int{1, 2, 3, 4, 5}, [][]said{same(1, 1, 1, noop, 1, 2), same(1, 2, 2, stop, 3, 4, 2)}, 5, "next 1 1:stop[1 2] missing 0 size 1"},
	} {
		l := made(t, c.members, 1)
		for i, s := range slices.Concat(c.votes...) {
			wantBool(t, fmt.Sprintf("%s: vote %d", c.name, i+1), l.Voted(s.node, s.vote), i+1 == c.decides)
		}
		if got := tell(l); got != c.want {
			t.Errorf("%s: the state is %q, want %q", c.name, got, c.want)
		}
	}
}

// P15.3: Told.

func TestTold(t *testing.T) {
	l := made(t, []int{1, 2, 3}, 4)
	for _, v := range wrongVals() {
		wantBool(t, fmt.Sprintf("Told %+v", v), l.Told(4, v), false)
	}
	wantBool(t, "Told below", l.Told(3, noop), false)
	wantBool(t, "Told above", l.Told(132, noop), false)
	wantState(t, l, "next 4 missing 0 size 0")
	wantBool(t, "Told 6", l.Told(6, batchOf(3)), true)
	wantState(t, l, "next 4 6:batch3 missing 2 size 1")
	wantBool(t, "Told 6 again", l.Told(6, batchOf(3)), false)
	wantBool(t, "Told 6 otherwise", l.Told(6, noop), false)
	l.Voted(2, vote(4, 3, 3, noop))
	wantState(t, l, "next 4 6:batch3 missing 2 size 2")
	// What is told holds against what was voted for.
	wantBool(t, "Told 4", l.Told(4, stop), true)
	wantState(t, l, "next 4 4:stop[1 2] 6:batch3 missing 1 size 2")
	wantBool(t, "Told 131", l.Told(131, fin), true)
	wantState(t, l, "next 4 4:stop[1 2] 6:batch3 131:stop[1 3] missing 125 size 3")
}

// P15.4: Next, Pass, Known, Missing.

func TestNextAndPass(t *testing.T) {
	l := made(t, []int{1}, 7)
	wantBool(t, "Pass of nothing", l.Pass(), false)
	l.Told(8, stop)
	if slot, v, there := l.Next(); slot != 7 || there || tellVal(v) != "noop" {
		t.Errorf("Next = %d, %+v, %v", slot, v, there)
	}
	wantBool(t, "Pass of a gap", l.Pass(), false)
	l.Told(7, batchOf(1))
	for range 2 { // asking changes nothing
		if slot, v, there := l.Next(); slot != 7 || !there || tellVal(v) != "batch1" {
			t.Errorf("Next = %d, %+v, %v", slot, v, there)
		}
	}
	wantBool(t, "Pass 7", l.Pass(), true)
	if slot, v, there := l.Next(); slot != 8 || !there || tellVal(v) != "stop[1 2]" {
		t.Errorf("Next = %d, %+v, %v", slot, v, there)
	}
	wantBool(t, "Pass 8", l.Pass(), true)
	wantBool(t, "Pass 9", l.Pass(), false)
	wantState(t, l, "next 9 7:batch1 8:stop[1 2] missing 0 size 2")
}

func TestKnown(t *testing.T) {
	l := made(t, []int{1, 2}, 7)
	l.Told(7, stop)
	l.Told(9, batchOf(1))
	l.Voted(1, vote(8, 1, 1, fin))
	l.Pass()
	for slot, want := range map[int]string{
		7: "stop[1 2]", 9: "batch1", 8: "", 6: "", 10: "", 0: "", -1: "", math.MinInt: "", math.MaxInt: "", api.MaxSlot: "",
	} {
		v, there := l.Known(slot)
		if there != (want != "") || there && tellVal(v) != want || !there && tellVal(v) != "noop" {
			t.Errorf("Known(%d) = %+v, %v", slot, v, there)
		}
	}
}

func TestMissing(t *testing.T) {
	l := made(t, []int{1, 2}, 10)
	want := func(most int, want ...int) {
		t.Helper()
		if got := l.Missing(most); !slices.Equal(got, want) {
			t.Errorf("Missing(%d) = %v, want %v", most, got, want)
		}
	}
	want(9)
	// A slot of which one vote was heard is missing itself.
	l.Voted(1, vote(14, 1, 1, noop))
	want(9, 10, 11, 12, 13, 14)
	want(5, 10, 11, 12, 13, 14)
	want(4, 10, 11, 12, 13)
	want(1, 10)
	for _, most := range []int{0, -1, math.MinInt} {
		want(most)
	}
	want(math.MaxInt, 10, 11, 12, 13, 14)
	// A lower slot doesn't take the highest one back.
	l.Told(11, noop)
	l.Told(13, noop)
	l.Voted(1, vote(12, 1, 1, noop))
	want(9, 10, 12, 14)
	want(2, 10, 12)
	l.Told(16, noop)
	want(9, 10, 12, 14, 15)
	l.Told(10, noop)
	want(9, 12, 14, 15)
	l.Pass()
	l.Pass()
	want(9, 12, 14, 15)
	l.Trim(11)
	want(9, 12, 14, 15)
	l.Jump(14)
	want(9, 14, 15)
	l.Voted(2, vote(14, 1, 1, noop))
	want(9, 15)
	l.Jump(16)
	want(9)
	l.Jump(40)
	want(9)
	l.Told(41, noop)
	want(9, 40)
	// Far ahead of all that is decided there is at most what is open.
	l.Told(167, noop)
	if all := l.Missing(1000); len(all) != 126 || all[0] != 40 || all[1] != 42 || all[125] != 166 {
		t.Errorf("Missing = %v", all)
	}
}

// The slot behind the highest one is never decided.
func TestBehindTheHighestSlot(t *testing.T) {
	l := made(t, []int{1, 2}, api.MaxSlot-1)
	wantBool(t, "Told the highest", l.Told(api.MaxSlot, stop), true)
	wantBool(t, "Told behind it", l.Told(api.MaxSlot+1, noop), false)
	wantBool(t, "Voted behind it", l.Voted(1, vote(api.MaxSlot+1, 1, 1, noop)), false)
	wantState(t, l, fmt.Sprintf("next %d %d:stop[1 2] missing 1 size 1", api.MaxSlot-1, api.MaxSlot))
	l.Told(api.MaxSlot-1, noop)
	wantBool(t, "Pass", l.Pass(), true)
	wantBool(t, "Pass the highest", l.Pass(), true)
	state := fmt.Sprintf("next %d %d:noop %d:stop[1 2] missing 0 size 2", api.MaxSlot+1, api.MaxSlot-1, api.MaxSlot)
	wantState(t, l, state)
	wantBool(t, "Pass behind it", l.Pass(), false)
	for _, slot := range []int{api.MaxSlot, api.MaxSlot + 1, api.MaxSlot + 2, math.MaxInt, 1} {
		wantBool(t, "Told", l.Told(slot, noop), false)
		wantBool(t, "Voted by 1", l.Voted(1, vote(slot, 1, 1, noop)), false)
		wantBool(t, "Voted by 2", l.Voted(2, vote(slot, 1, 1, noop)), false)
		wantBool(t, "Jump", l.Jump(slot), false)
	}
	wantState(t, l, state)
	l.Trim(math.MaxInt)
	wantState(t, l, fmt.Sprintf("next %d missing 0 size 0", api.MaxSlot+1))
}

// P15.5: Trim and Jump.

// laid has slots 5 to 7 decided and passed, 8 with a vote, 9 and 10 decided, 12 with a vote.
func laid(t *testing.T) *Learner {
	t.Helper()
	l := made(t, []int{1, 2}, 5)
	for _, slot := range []int{5, 6, 7, 9, 10} {
		wantBool(t, "Told", l.Told(slot, batchOf(slot)), true)
	}
	for range 3 {
		wantBool(t, "Pass", l.Pass(), true)
	}
	wantBool(t, "Voted", l.Voted(1, vote(8, 1, 1, stop)), false)
	wantBool(t, "Voted", l.Voted(1, vote(12, 1, 1, stop)), false)
	return l
}

func TestTrim(t *testing.T) {
	const ahead = " 9:batch9 10:batch10 missing 3 size "
	for slot, want := range map[int]string{
		math.MinInt: "next 8 5:batch5 6:batch6 7:batch7" + ahead + "7", -1: "next 8 5:batch5 6:batch6 7:batch7" + ahead + "7",
		0: "next 8 5:batch5 6:batch6 7:batch7" + ahead + "7", 4: "next 8 5:batch5 6:batch6 7:batch7" + ahead + "7",
		5: "next 8 6:batch6 7:batch7" + ahead + "6", 6: "next 8 7:batch7" + ahead + "5", 7: "next 8" + ahead + "4",
		8: "next 8" + ahead + "4", 9: "next 8" + ahead + "4", 10: "next 8" + ahead + "4", api.MaxSlot: "next 8" + ahead + "4", math.MaxInt: "next 8" + ahead + "4",
	} {
		l := laid(t)
		for range 2 {
			l.Trim(slot)
			if got := tell(l); got != want {
				t.Errorf("behind Trim(%d) the state is %q, want %q", slot, got, want)
			}
		}
		// The votes of the slots ahead are still there.
		wantBool(t, "the second vote", l.Voted(2, vote(8, 1, 1, stop)), true)
		wantBool(t, "the second vote", l.Voted(2, vote(12, 1, 1, stop)), true)
	}
}

func TestJump(t *testing.T) {
	const state = "next 8 5:batch5 6:batch6 7:batch7 9:batch9 10:batch10 missing 3 size 7"
	for _, next := range []int{math.MinInt, -1, 0, 1, 5, 7, 8, api.MaxSlot + 1, math.MaxInt} {
		l := laid(t)
		wantBool(t, fmt.Sprint("Jump to ", next), l.Jump(next), false)
		wantState(t, l, state)
	}
	for _, c := range []struct {
		next          int
		want          string
		eight, twelve bool // whether another vote decides there
	}{
		{9, "next 9 9:batch9 10:batch10 missing 2 size 3", false, true},
		{10, "next 10 10:batch10 missing 2 size 2", false, true},
		{11, "next 11 missing 2 size 1", false, true},
		{12, "next 12 missing 1 size 1", false, true},
		{13, "next 13 missing 0 size 0", false, false},
		{100000, "next 100000 missing 0 size 0", false, false},
		{api.MaxSlot, fmt.Sprintf("next %d missing 0 size 0", api.MaxSlot), false, false},
	} {
		l := laid(t)
		wantBool(t, fmt.Sprint("Jump to ", c.next), l.Jump(c.next), true)
		wantState(t, l, c.want)
		wantBool(t, "the same again", l.Jump(c.next), false)
		wantState(t, l, c.want)
		wantBool(t, "a second vote in 8", l.Voted(2, vote(8, 1, 1, stop)), c.eight)
		wantBool(t, "a second vote in 12", l.Voted(2, vote(12, 1, 1, stop)), c.twelve)
		wantBool(t, "Told the next", l.Told(c.next, stop), c.next != 9 && c.next != 10 && c.next != 12)
		wantBool(t, "Pass", l.Pass(), true)
	}
}

// P15.6: Size.

func TestSize(t *testing.T) {
	l := made(t, []int{1, 2, 3, 4, 5}, 1)
	want := func(want int) {
		t.Helper()
		if got := l.Size(); got != want {
			t.Errorf("Size = %d, want %d", got, want)
		}
	}
	want(0)
	// Several votes in one slot are of one slot, and so are votes and a decision.
	for node := 1; node <= 5; node++ {
		l.Voted(node, vote(3, 1, node, noop))
		want(1)
	}
	l.Voted(1, vote(4, 1, 1, noop))
	want(2)
	l.Told(3, noop)
	want(2)
	l.Told(1, noop)
	want(3)
	l.Pass()
	want(3)
	l.Trim(1)
	want(2)
	l.Jump(4)
	want(1)
	l.Jump(5)
	want(0)
	for slot := range 400 {
		l.Voted(1, vote(slot, 1, 1, noop))
	}
	want(128)
	// Of a slot that is decided the votes are no longer kept.
	for slot := range 400 {
		l.Told(slot, noop)
	}
	want(128)
	if len(l.votes) != 0 {
		t.Errorf("votes of %d decided slots are kept", len(l.votes))
	}
}

// A nil learner, and one that New hasn't made, hear nothing and answer zero values.
func TestNil(t *testing.T) {
	for _, l := range []*Learner{nil, {}} {
		for range 2 {
			if l.Voted(1, vote(1, 1, 1, noop)) || l.Voted(0, vote(0, 1, 1, noop)) || l.Told(1, noop) || l.Told(0, noop) || l.Pass() || l.Jump(5) {
				t.Error("it hears something")
			}
			slot, v, there := l.Next()
			known, is := l.Known(1)
			if slot != 0 || there || is || tellVal(v) != "noop" || tellVal(known) != "noop" || len(l.Missing(9)) != 0 || l.Size() != 0 {
				t.Error("it tells something")
			}
			l.Trim(9)
		}
	}
}

// Rule 4: what is handed in is neither changed nor kept, and an answer is new memory.

// spoil changes all that a value's lists hold, and the room behind their ends.
func spoil(v api.Val) {
	for i := range v.Cmds[:cap(v.Cmds)] {
		v.Cmds[:cap(v.Cmds)][i] = api.Cmd{Sess: -1}
	}
	for i := range v.Next[:cap(v.Next)] {
		v.Next[:cap(v.Next)][i] = -1
	}
}

func TestMemory(t *testing.T) {
	members := []int{1, 2, 3, 4}
	l := made(t, members[:3], 1)
	clear(members)
	const state = "next 1 1:stop[1 2] 2:batch5 3:stop[1 2] missing 0 size 3"
	room := []int{1, 2, 3}
	kept, last, told := api.Val{Kind: api.Stop, Next: room[:2]}, api.Val{Kind: api.Stop, Next: []int{1, 2}}, batchOf(5)
	l.Voted(1, vote(1, 1, 1, kept))
	if fmt.Sprint(room) != "[1 2 3]" {
		t.Error("what was handed in has changed")
	}
	spoil(kept)
	wantBool(t, "the second vote", l.Voted(3, vote(1, 1, 1, last)), true)
	l.Told(2, told)
	l.Told(3, value.Clone(stop))
	if tellVal(last) != "stop[1 2]" || tellVal(told) != "batch5" {
		t.Error("what was handed in has changed")
	}
	spoil(last)
	spoil(told)
	wantState(t, l, state)
	_, next, _ := l.Next()
	one, _ := l.Known(2)
	two, _ := l.Known(2)
	for _, v := range []api.Val{next, one} {
		spoil(v)
		wantState(t, l, state)
	}
	if tellVal(two) != "batch5" {
		t.Errorf("one answer has changed another: %s", tellVal(two))
	}
	l.Voted(2, vote(6, 1, 1, noop))
	missing := l.Missing(9)
	clear(missing)
	if got := l.Missing(9); fmt.Sprint(got) != "[4 5 6]" {
		t.Errorf("Missing = %v", got)
	}
}

// Rule 6: two learners never meet.
func TestTwo(t *testing.T) {
	a, b := made(t, []int{1, 2}, 1), made(t, []int{1, 2}, 1)
	a.Voted(1, vote(1, 1, 1, noop))
	wantBool(t, "the second vote at the other one", b.Voted(2, vote(1, 1, 1, noop)), false)
	b.Told(1, stop)
	b.Pass()
	wantState(t, a, "next 1 missing 1 size 1")
	wantState(t, b, "next 2 1:stop[1 2] missing 0 size 1")
}

// plain is a model of a learner: it keeps all that it has heard, and works out the rest each time.
type plain struct {
	members []int
	next    int
	heard   int
	nodes   []int      // who has cast
	votes   []api.Vote // which vote, in the order in which they took effect
	decided []api.Vote // of which slot, the slot and the value
}

// known is where a slot's decision stands; -1, if there is none.
func (p *plain) known(slot int) int {
	return slices.IndexFunc(p.decided, func(v api.Vote) bool { return v.Slot == slot })
}

// open, for as long as a decision that was trimmed is below the next slot.
func (p *plain) open(slot int) bool {
	return p.next <= slot && slot <= p.next+127 && slot <= 1<<40 && p.known(slot) < 0
}

func (p *plain) voted(node int, v api.Vote) bool {
	isBal := 1 <= v.Bal.Round && v.Bal.Round <= 1<<40 && 1 <= v.Bal.Node && v.Bal.Node <= 9
	if !p.open(v.Slot) || value.Check(v.Val) != api.OK || !slices.Contains(p.members, node) || !isBal {
		return false
	}
	p.heard = max(p.heard, v.Slot)
	if old, is := p.last(node, v.Slot); is && (old.Bal.Round > v.Bal.Round || old.Bal.Round == v.Bal.Round && old.Bal.Node >= v.Bal.Node) {
		return false
	}
	p.nodes, p.votes = append(p.nodes, node), append(p.votes, v)
	count := 0
	for _, member := range p.members {
		if kept, is := p.last(member, v.Slot); is && kept.Bal == v.Bal && value.Same(kept.Val, v.Val) {
			count++
		}
	}
	if 2*count <= len(p.members) {
		return false
	}
	p.decided = append(p.decided, v)
	return true
}

// last is the last vote of a node in a slot.
func (p *plain) last(node, slot int) (api.Vote, bool) {
	for i := len(p.votes) - 1; i >= 0; i-- {
		if p.nodes[i] == node && p.votes[i].Slot == slot {
			return p.votes[i], true
		}
	}
	return api.Vote{}, false
}

func (p *plain) told(slot int, v api.Val) bool {
	if !p.open(slot) || value.Check(v) != api.OK {
		return false
	}
	p.heard = max(p.heard, slot)
	p.decided = append(p.decided, api.Vote{Slot: slot, Val: v})
	return true
}

func (p *plain) pass() bool {
	if p.known(p.next) < 0 {
		return false
	}
	p.next++
	return true
}

func (p *plain) trim(slot int) {
	p.decided = slices.DeleteFunc(p.decided, func(v api.Vote) bool { return v.Slot <= slot && v.Slot < p.next })
}

func (p *plain) jump(next int) bool {
	if next <= p.next || next > 1<<40 {
		return false
	}
	p.next = next
	p.trim(next - 1)
	return true
}

func (p *plain) missing() []int {
	var all []int
	for slot := p.next; slot <= p.heard; slot++ {
		if p.known(slot) < 0 {
			all = append(all, slot)
		}
	}
	return all
}

// size is of how many slots a decision is there, or is still to come and a vote is there.
func (p *plain) size() int {
	slots := map[int]bool{}
	for _, v := range p.votes {
		if v.Slot >= p.next {
			slots[v.Slot] = true
		}
	}
	for _, v := range p.decided {
		slots[v.Slot] = true
	}
	return len(slots)
}

func (p *plain) tell() string {
	all := []string{fmt.Sprint("next ", p.next)}
	for slot := p.next - 150; slot <= p.next+150; slot++ {
		if i := p.known(slot); i >= 0 {
			all = append(all, fmt.Sprint(slot, ":", tellVal(p.decided[i].Val)))
		}
	}
	return strings.Join(append(all, fmt.Sprint("missing ", len(p.missing()), " size ", p.size())), " ")
}

// dice takes what is to be done from bytes, and ends with them.
type dice struct{ left []byte }

// up is a number below n.
func (d *dice) up(n int) int {
	if len(d.left) == 0 {
		return 0
	}
	b := int(d.left[0])
	d.left = d.left[1:]
	return b % n
}

// slot is mostly one of the next ones, and sometimes about an edge.
func (d *dice) slot(next int) int {
	switch d.up(8) {
	case 0:
		return next - 1 - d.up(4)
	case 1:
		return next + 125 + d.up(5)
	case 2:
		return []int{math.MinInt, -1, 0, api.MaxSlot, api.MaxSlot + 1, math.MaxInt}[d.up(6)]
	}
	return next + d.up(5)
}

func (d *dice) val() api.Val {
	switch d.up(12) {
	case 0:
		return wrongVals()[d.up(14)]
	case 1, 2:
		return stop
	case 3, 4, 5:
		return batchOf(1 + d.up(2))
	}
	return noop
}

// against does what bytes say to a learner and to the model, and asks that they never differ.
func against(t *testing.T, data []byte) {
	d := &dice{data}
	members := [][]int{{1, 2, 3}, {4}, {2, 3, 5, 7}, {1, 2, 3, 4, 5}}[d.up(4)]
	from := []int{1, 9, api.MaxSlot - 130, api.MaxSlot - 6, api.MaxSlot}[d.up(5)]
	l, p := New(members, from), &plain{members: members, next: from}
	for len(d.left) > 0 {
		var what string
		var got, want bool
		switch d.up(16) {
		case 0, 1, 2:
			slot, v := d.slot(p.next), d.val()
			what, got, want = fmt.Sprint("Told ", slot, tellVal(v)), l.Told(slot, v), p.told(slot, v)
		case 3, 4:
			what, got, want = "Pass", l.Pass(), p.pass()
		case 5:
			slot := d.slot(p.next)
			what = fmt.Sprint("Trim ", slot)
			l.Trim(slot)
			p.trim(slot)
		case 6:
			next := d.slot(p.next)
			what, got, want = fmt.Sprint("Jump ", next), l.Jump(next), p.jump(next)
		default:
			node, v := members[d.up(len(members))]+d.up(12)/11, api.Vote{Slot: d.slot(p.next), Bal: bal(d.up(16)/5, d.up(12)/5+1), Val: d.val()}
			what, got, want = fmt.Sprint("Voted ", node, v), l.Voted(node, v), p.voted(node, v)
		}
		if got != want || tell(l) != p.tell() || !slices.Equal(l.Missing(1000), p.missing()) {
			t.Fatalf("%s is %v, want %v; the state is %q, want %q; missing %v, want %v", what, got, want, tell(l), p.tell(), l.Missing(1000), p.missing())
		}
	}
}

func TestAgainstModel(t *testing.T) {
	rnd := rand.New(rand.NewSource(15))
	for range 600 {
		data := make([]byte, 400)
		rnd.Read(data)
		against(t, data)
	}
}

func FuzzAgainstModel(f *testing.F) {
	f.Add([]byte("a learner counts votes, and hands out what is decided, in order"))
	f.Fuzz(against)
}

// P15.7: two learners never differ, if what is voted for keeps to the two rules.

// voter is a member: the highest ballot that it knows, and its vote in the one slot.
type voter struct {
	knows api.Bal
	vote  api.Vote
}

// synod makes votes in one slot that keep to the rules: a ballot's value is one of which a quorum knows that no other one can be chosen below.
type synod struct {
	rnd    *rand.Rand
	slot   int
	voters map[int]*voter
	asked  []api.Vote
	round  int
}

func less(a, b api.Bal) bool { return a.Round < b.Round || a.Round == b.Round && a.Node < b.Node }

// begin begins a ballot over all that a quorum has voted for.
func (s *synod) begin(members []int) {
	s.round += s.rnd.Intn(2)
	v := api.Vote{Slot: s.slot, Bal: bal(s.round, 1+s.rnd.Intn(9)), Val: []api.Val{noop, stop, fin, batchOf(1 + s.rnd.Intn(3))}[s.rnd.Intn(4)]}
	if slices.ContainsFunc(s.asked, func(old api.Vote) bool { return old.Bal == v.Bal }) {
		return
	}
	quorum := slices.Clone(members)
	s.rnd.Shuffle(len(quorum), func(i, k int) { quorum[i], quorum[k] = quorum[k], quorum[i] })
	quorum = quorum[:len(members)/2+1]
	for _, node := range quorum {
		if less(v.Bal, s.voters[node].knows) {
			return
		}
	}
	var highest api.Bal
	for _, node := range quorum {
		w := s.voters[node]
		w.knows = v.Bal
		if less(highest, w.vote.Bal) {
			highest, v.Val = w.vote.Bal, w.vote.Val
		}
	}
	s.asked = append(s.asked, v)
}

// cast lets a member vote in one of the ballots, and tells whether it does.
func (s *synod) cast(node int) (api.Vote, bool) {
	if len(s.asked) == 0 {
		return api.Vote{}, false
	}
	v, w := s.asked[s.rnd.Intn(len(s.asked))], s.voters[node]
	if less(v.Bal, w.knows) {
		return api.Vote{}, false
	}
	w.knows, w.vote = v.Bal, v
	return v, true
}

func TestTwoLearnersNeverDiffer(t *testing.T) {
	rnd := rand.New(rand.NewSource(157))
	decisions, ballots := 0, 0
	for range 4000 {
		members := [][]int{{1, 2, 3}, {2, 4, 6, 8}, {1, 2, 3, 4, 5}, {3, 9}}[rnd.Intn(4)]
		two := [2]*Learner{New(members, 1), New(members, 3)}
		s := &synod{rnd: rnd, slot: 3 + rnd.Intn(5), voters: map[int]*voter{}, round: 1}
		for _, node := range members {
			s.voters[node] = &voter{}
		}
		type said struct {
			node int
			vote api.Vote
		}
		var all []said
		for range 40 {
			if rnd.Intn(4) == 0 {
				s.begin(members)
			}
			node := members[rnd.Intn(len(members))]
			if v, is := s.cast(node); is {
				all = append(all, said{node, v})
			}
			// Anything that was said comes to any of the two, perhaps again, perhaps never.
			for i := range two {
				if len(all) > 0 && rnd.Intn(2) == 0 {
					x := all[rnd.Intn(len(all))]
					two[i].Voted(x.node, x.vote)
				}
				if v, is := two[i].Known(s.slot); is && rnd.Intn(30) == 0 {
					two[1-i].Told(s.slot, v)
				}
			}
			one, there := two[0].Known(s.slot)
			other, too := two[1].Known(s.slot)
			if there && too && !value.Same(one, other) {
				t.Fatalf("members %v: %s and %s, by %v", members, tellVal(one), tellVal(other), all)
			}
			if there && too {
				decisions++
			}
		}
		ballots += len(s.asked)
	}
	// So that the test stays one: there are many decisions by both, and several ballots each.
	if decisions < 10000 || ballots < 10000 {
		t.Errorf("%d decisions, %d ballots", decisions, ballots)
	}
}

// The chapter's example.

func TestExample(t *testing.T) {
	l := made(t, []int{1, 2, 3}, 1)
	wantBool(t, "Voted by 1", l.Voted(1, vote(2, 1, 1, noop)), false)
	wantBool(t, "Voted by 3", l.Voted(3, vote(2, 1, 1, noop)), true)
	if slot, _, there := l.Next(); slot != 1 || there || fmt.Sprint(l.Missing(9)) != "[1]" {
		t.Errorf("Next = %d, %v, Missing = %v", slot, there, l.Missing(9))
	}
	wantBool(t, "Told", l.Told(1, noop), true)
	wantBool(t, "Pass", l.Pass(), true)
	wantBool(t, "Pass", l.Pass(), true)
	if slot, _, _ := l.Next(); slot != 3 {
		t.Errorf("Next = %d", slot)
	}
}
