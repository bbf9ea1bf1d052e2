package ballot

import (
	"math"
	"slices"
	"testing"

	"synod/api"
)

// edges are numbers around the bounds of rounds and nodes, and those at the ends of what an int holds.
func edges() []int {
	return []int{math.MinInt, math.MinInt + 1, -api.MaxRound, -1, 0, 1, 2, 8, 9, 10, api.MaxRound - 1, api.MaxRound, api.MaxRound + 1, math.MaxInt - 1, math.MaxInt}
}

func edgeBallots() []api.Bal {
	var out []api.Bal
	for _, round := range edges() {
		for _, node := range edges() {
			out = append(out, api.Bal{Round: round, Node: node})
		}
	}
	return out
}

// members is the set whose nodes are the bits of a number, 1 for node 1.
func members(bits int) Members {
	var ms Members
	for node := 1; node <= api.MaxNodes; node++ {
		if bits>>(node-1)&1 == 1 {
			ms = append(ms, node)
		}
	}
	return ms
}

// rightSets are all right sets of members.
func rightSets() []Members {
	var out []Members
	for bits := 1; bits < 1<<api.MaxNodes; bits++ {
		if ms := members(bits); len(ms) <= api.MaxMembers {
			out = append(out, ms)
		}
	}
	return out
}

// wrongSets are no right ones: of too few, of too many, not rising, not nodes.
func wrongSets() [][]int {
	return [][]int{
		nil, {}, {0}, {-1}, {10}, {math.MinInt}, {math.MaxInt}, {2, 2}, {3, 2}, {1, 2, 2}, {1, 3, 2}, {2, 1, 3}, {0, 1}, {-1, 1}, {9, 10}, {1, 2, 10}, {math.MinInt, 1}, {1, math.MaxInt},
		{1, 2, 3, 4, 5, 6, 7, 8}, {1, 2, 3, 4, 5, 6, 7, 8, 9}, {1, 1, 1, 1, 1, 1, 1, 1}, {0, 1, 2, 3, 4, 5, 6}, {3, 4, 5, 6, 7, 8, 10}, {7, 6, 5, 4, 3, 2, 1}, make([]int, 1000),
	}
}

// P5.1

func TestCompare(t *testing.T) {
	all := edgeBallots() // rising by Round, then by Node
	for i, a := range all {
		for k, b := range all {
			want := 0
			if i < k {
				want = -1
			}
			if i > k {
				want = 1
			}
			if got := Compare(a, b); got != want {
				t.Errorf("Compare(%v, %v) = %d, want %d", a, b, got, want)
			}
		}
	}
}

func TestValid(t *testing.T) {
	for _, b := range edgeBallots() {
		rounds := []int{1, 2, 8, 9, 10, api.MaxRound - 1, api.MaxRound}
		nodes := []int{1, 2, 8, 9}
		want := slices.Contains(rounds, b.Round) && slices.Contains(nodes, b.Node)
		if got := Valid(b); got != want {
			t.Errorf("Valid(%v) = %v, want %v", b, got, want)
		}
	}
	for node := 1; node <= 9; node++ {
		if !Valid(api.Bal{Round: 1 << 40, Node: node}) || !Valid(api.Bal{Round: 1, Node: node}) {
			t.Errorf("no ballot of node %d", node)
		}
	}
}

func TestCheck(t *testing.T) {
	for _, ms := range rightSets() {
		if got := Check(ms); got != api.OK {
			t.Errorf("Check(%v) = %d", ms, got)
		}
	}
	for _, ms := range wrongSets() {
		if got := Check(ms); got != api.ErrSet {
			t.Errorf("Check(%v) = %d", ms, got)
		}
	}
}

// TestCheckEveryShortList holds all lists of up to four numbers from -1 to 11 against what the document says.
func TestCheckEveryShortList(t *testing.T) {
	lists := [][]int{nil}
	for range 4 {
		var longer [][]int
		for _, ms := range lists {
			for n := -1; n <= 11; n++ {
				longer = append(longer, append(slices.Clone(ms), n))
			}
		}
		for _, ms := range longer {
			want := api.OK
			if slices.Min(ms) < 1 || slices.Max(ms) > 9 || !slices.IsSorted(ms) || len(slices.Compact(slices.Clone(ms))) != len(ms) {
				want = api.ErrSet
			}
			if got := Check(ms); got != want {
				t.Errorf("Check(%v) = %d, want %d", ms, got, want)
			}
		}
		lists = longer
	}
}

// P5.2

func TestHas(t *testing.T) {
	for bits := 1; bits < 1<<api.MaxNodes; bits++ {
		ms := members(bits)
		for node := 1; node <= api.MaxNodes; node++ {
			if got, want := ms.Has(node), bits>>(node-1)&1 == 1; got != want {
				t.Errorf("%v.Has(%d) = %v", ms, node, got)
			}
		}
		for _, node := range []int{math.MinInt, -1, 0, 10, math.MaxInt} {
			if ms.Has(node) {
				t.Errorf("%v.Has(%d)", ms, node)
			}
		}
	}
}

func TestQuorum(t *testing.T) {
	for n, want := range []int{1: 1, 2: 2, 3: 2, 4: 3, 5: 3, 6: 4, 7: 4} {
		if ms := members(1<<n - 1); n > 0 && ms.Quorum() != want {
			t.Errorf("Quorum of %d members = %d, want %d", n, ms.Quorum(), want)
		}
	}
	for _, ms := range rightSets() {
		if q := ms.Quorum(); 2*q <= len(ms) || 2*(q-1) > len(ms) {
			t.Errorf("Quorum of %v = %d", ms, q)
		}
	}
}

func TestEnough(t *testing.T) {
	for _, ms := range rightSets() {
		for bits := range 1 << api.MaxNodes {
			there := 0
			nodes := members(bits)
			for _, node := range nodes {
				if slices.Contains(ms, node) {
					there++
				}
			}
			if got, want := ms.Enough(nodes), there > len(ms)/2; got != want {
				t.Fatalf("%v.Enough(%v) = %v, want %v", ms, nodes, got, want)
			}
		}
	}
}

func TestEnoughCountsEachMemberOnce(t *testing.T) {
	ms := Members{2, 3, 5}
	for _, nodes := range [][]int{nil, {}, {5}, {5, 5}, {5, 5, 9}, {5, 1, 4, 6, 9}, {0, -1, 10, 5}, {1, 4, 6}, {math.MinInt, math.MaxInt, 2}, slices.Repeat([]int{3}, 1000)} {
		if ms.Enough(nodes) {
			t.Errorf("Enough(%v)", nodes)
		}
	}
	for _, nodes := range [][]int{{5, 2}, {2, 5}, {3, 3, 2}, {5, 9, 9, 5, 3}, {5, 3, 2}, {-1, 2, 0, 3, 10}, append(slices.Repeat([]int{3}, 1000), 2)} {
		if !ms.Enough(nodes) {
			t.Errorf("not Enough(%v)", nodes)
		}
	}
}

func TestTwoQuorumsShareAMember(t *testing.T) {
	for _, ms := range []Members{{4}, {1, 9}, {2, 3, 5}, {1, 2, 3, 4}, {1, 3, 5, 7, 9}, {1, 2, 3, 4, 5, 6}, {1, 2, 3, 4, 6, 8, 9}} {
		var enough []int
		for bits := range 1 << api.MaxNodes {
			if ms.Enough(members(bits)) {
				enough = append(enough, bits)
			}
		}
		if len(enough) == 0 {
			t.Errorf("nothing is enough for %v", ms)
		}
		for _, a := range enough {
			for _, b := range enough {
				if !slices.ContainsFunc(ms, func(node int) bool { return (a&b)>>(node-1)&1 == 1 }) {
					t.Fatalf("%v: %v and %v share no member", ms, members(a), members(b))
				}
			}
		}
	}
}

// P5.3

func TestLeader(t *testing.T) {
	for _, ms := range rightSets() {
		for round := 1; round <= 30; round++ {
			if got, want := ms.Leader(round), slices.Repeat(ms, 30)[round-1]; got != want {
				t.Fatalf("%v.Leader(%d) = %d, want %d", ms, round, got, want)
			}
		}
		for _, round := range []int{0, -1, -2, -7, -api.MaxRound, math.MinInt, math.MinInt + 1} {
			if got := ms.Leader(round); got != 0 {
				t.Errorf("%v.Leader(%d) = %d", ms, round, got)
			}
		}
	}
}

func TestLeaderOfHighRounds(t *testing.T) {
	ms := Members{2, 3, 5}
	// 2^40 - 1 and 2^63 - 2, the places ahead of the rounds 2^40 and MaxInt, can be divided by 3.
	for round, want := range map[int]int{1 << 40: 2, 1<<40 + 1: 3, 1<<40 - 1: 5, math.MaxInt: 2, math.MaxInt - 1: 5} {
		if got := ms.Leader(round); got != want {
			t.Errorf("Leader(%d) = %d, want %d", round, got, want)
		}
	}
}

func wantNext(t *testing.T, ms Members, b api.Bal, node int, want api.Bal, err api.Errno) {
	t.Helper()
	if got, e := ms.Next(b, node); got != want || e != err {
		t.Errorf("%v.Next(%v, %d) = %v, %d, want %v, %d", ms, b, node, got, e, want, err)
	}
}

// least looks for the next round one by one.
func least(ms Members, round, node int) (api.Bal, api.Errno) {
	for round++; round <= api.MaxRound; round++ {
		if ms[(round-1)%len(ms)] == node {
			return api.Bal{Round: round, Node: node}, api.OK
		}
	}
	return api.Bal{}, api.ErrBal
}

func TestNext(t *testing.T) {
	for _, ms := range rightSets() {
		for _, node := range ms {
			for near := range 16 {
				for _, round := range []int{near, 1<<20 + near, api.MaxRound - near} {
					want, err := least(ms, round, node)
					wantNext(t, ms, api.Bal{Round: round, Node: near}, node, want, err)
				}
			}
		}
	}
}

func TestNextIsAboveAndTheNodesOwn(t *testing.T) {
	for _, ms := range rightSets() {
		for _, node := range ms {
			b := api.Bal{}
			for range 20 {
				next, e := ms.Next(b, node)
				if e != api.OK || !Valid(next) || Compare(next, b) != 1 || ms.Leader(next.Round) != node || next.Node != node {
					t.Fatalf("%v.Next(%v, %d) = %v, %d", ms, b, node, next, e)
				}
				b = next
			}
		}
	}
}

func TestNextLooksAtTheRoundAlone(t *testing.T) {
	for _, node := range edges() {
		wantNext(t, Members{2, 3, 5}, api.Bal{Round: 4, Node: node}, 2, api.Bal{Round: 7, Node: 2}, api.OK)
	}
}

func TestNextOfWrongArguments(t *testing.T) {
	ms := Members{2, 3, 5}
	for _, node := range []int{math.MinInt, -1, 0, 1, 4, 6, 9, 10, math.MaxInt} {
		wantNext(t, ms, api.Bal{}, node, api.Bal{}, api.ErrArg)
		wantNext(t, ms, api.Bal{Round: api.MaxRound}, node, api.Bal{}, api.ErrArg)
	}
	for _, round := range []int{math.MinInt, math.MinInt + 1, -api.MaxRound, -3, -1, api.MaxRound + 1, api.MaxRound + 3, math.MaxInt - 1, math.MaxInt} {
		wantNext(t, ms, api.Bal{Round: round, Node: 2}, 2, api.Bal{}, api.ErrArg)
	}
}

func TestNextAtTheLastRounds(t *testing.T) {
	// 2^40 is the turn of the first of three.
	ms := Members{2, 3, 5}
	last := api.Bal{Round: api.MaxRound, Node: 2}
	wantNext(t, ms, api.Bal{Round: api.MaxRound - 1}, 2, last, api.OK)
	wantNext(t, ms, api.Bal{Round: api.MaxRound - 3}, 2, last, api.OK)
	wantNext(t, ms, api.Bal{Round: api.MaxRound - 1}, 3, api.Bal{}, api.ErrBal)
	wantNext(t, ms, api.Bal{Round: api.MaxRound - 1}, 5, api.Bal{}, api.ErrBal)
	for _, node := range ms {
		wantNext(t, ms, api.Bal{Round: api.MaxRound}, node, api.Bal{}, api.ErrBal)
	}
	wantNext(t, Members{9}, api.Bal{Round: api.MaxRound - 1}, 9, api.Bal{Round: api.MaxRound, Node: 9}, api.OK)
	wantNext(t, Members{9}, api.Bal{Round: api.MaxRound}, 9, api.Bal{}, api.ErrBal)
}

func TestWrongSetsEnd(t *testing.T) {
	long := make([]int, 1<<18)
	for _, set := range append(wrongSets(), long) {
		ms := Members(set)
		old := slices.Clone(set)
		for _, n := range edges() {
			ms.Has(n)
			ms.Leader(n)
			ms.Next(api.Bal{Round: n, Node: n}, n)
			ms.Next(api.Bal{Round: 5}, n)
		}
		ms.Quorum()
		ms.Enough(set)
		ms.Enough(long)
		if !slices.Equal(set, old) {
			t.Errorf("the set became %v", set)
		}
	}
}

// The examples of the chapter.

func TestExamples(t *testing.T) {
	ms := Members{2, 3, 5}
	if ms.Quorum() != 2 || ms.Enough([]int{5, 5, 9}) || !ms.Enough([]int{5, 2}) {
		t.Error("quorums")
	}
	if ms.Leader(1) != 2 || ms.Leader(5) != 3 {
		t.Error("leaders")
	}
	wantNext(t, ms, api.Bal{Round: 4}, 2, api.Bal{Round: 7, Node: 2}, api.OK)
	wantNext(t, ms, api.Bal{}, 5, api.Bal{Round: 3, Node: 5}, api.OK)
}
