package election

import (
	"fmt"
	"math"
	"math/big"
	"math/rand"
	"slices"
	"testing"

	"synod/api"
)

// made is a timer with what New asks for.
func made(t *testing.T, me int, members []int, base, most, now int) *Timer {
	t.Helper()
	e := New(me, members, base, most, now)
	if e == nil {
		t.Fatalf("New(%d, %v, %d, %d, %d) is nil", me, members, base, most, now)
	}
	return e
}

// tell is what a timer tells of itself, as a text.
func tell(e *Timer) string { return fmt.Sprintf("round %d wait %d", e.Round(), e.Wait()) }

// turns tells whether a timer would begin a round at a time; the timer itself stays as it is.
func turns(e *Timer, now int) bool {
	twin := *e
	twin.Tick(now)
	return twin.Round() != e.Round()
}

// wantState is that a timer is in a round, and waits so long from a time on, to the tick.
func wantState(t *testing.T, what string, e *Timer, round, wait, since int) {
	t.Helper()
	if got, want := tell(e), fmt.Sprintf("round %d wait %d", round, wait); got != want {
		t.Errorf("%s: the state is %q, want %q", what, got, want)
	}
	if round < api.MaxRound && (turns(e, since+wait-1) || !turns(e, since+wait)) {
		t.Errorf("%s: it doesn't wait until %d", what, since+wait)
	}
}

func wantBool(t *testing.T, what string, got, want bool) {
	t.Helper()
	if got != want {
		t.Errorf("%s = %v, want %v", what, got, want)
	}
}

// rightSets and wrongSets are sets of members, and what is none.
func rightSets() [][]int {
	return [][]int{{1}, {9}, {1, 2, 3}, {2, 5, 9}, {4, 6}, {3, 4, 5, 6, 7, 8, 9}}
}

func wrongSets() [][]int {
	return [][]int{nil, {}, {0}, {10}, {-1}, {math.MinInt}, {math.MaxInt}, {1, 1}, {2, 1}, {0, 1}, {9, 10}, {1, 2, 3, 4, 5, 6, 7, 8}, make([]int, 1000)}
}

// P17.1: New.

func TestNew(t *testing.T) {
	for _, members := range rightSets() {
		for _, me := range []int{members[0], 1, 9, 0, -1, 10, math.MinInt, math.MaxInt} {
			for _, now := range []int{0, 1, 1000, -1000, math.MinInt, math.MaxInt - 10} {
				e := made(t, me, members, 10, 30, now)
				wantState(t, fmt.Sprintf("New(%d, %v, 10, 30, %d)", me, members, now), e, 0, 10, now)
			}
		}
	}
}

func TestNewRefused(t *testing.T) {
	for _, members := range wrongSets() {
		for _, me := range []int{1, 0, 10} {
			if New(me, members, 10, 30, 0) != nil {
				t.Errorf("New(%d, %v) isn't nil", me, members)
			}
		}
	}
}

// base and most are brought within their bounds; most shows in how the waits grow.
func TestBounds(t *testing.T) {
	const most = api.MaxLease
	for _, c := range []struct {
		base, most int
		waits      [4]int
	}{
		{10, 30, [4]int{10, 20, 30, 30}},
		{10, 40, [4]int{10, 20, 40, 40}},
		{10, 41, [4]int{10, 20, 40, 41}},
		{10, 20, [4]int{10, 20, 20, 20}},
		{10, 19, [4]int{10, 19, 19, 19}},
		{10, 11, [4]int{10, 11, 11, 11}},
		{10, 10, [4]int{10, 10, 10, 10}},
		{10, 9, [4]int{10, 10, 10, 10}},
		{10, 0, [4]int{10, 10, 10, 10}},
		{10, math.MinInt, [4]int{10, 10, 10, 10}},
		{1, 1, [4]int{1, 1, 1, 1}},
		{1, most, [4]int{1, 2, 4, 8}},
		{0, 3, [4]int{1, 2, 3, 3}},
		{-5, 3, [4]int{1, 2, 3, 3}},
		{-5, -7, [4]int{1, 1, 1, 1}},
		{math.MinInt, math.MinInt, [4]int{1, 1, 1, 1}},
		{math.MinInt, math.MaxInt, [4]int{1, 2, 4, 8}},
		{most / 4, most, [4]int{most / 4, most / 2, most, most}},
		{most/4 + 1, math.MaxInt, [4]int{most/4 + 1, most/2 + 2, most, most}},
		{most - 1, most, [4]int{most - 1, most, most, most}},
		{most - 1, most + 1, [4]int{most - 1, most, most, most}},
		{most - 1, most - 2, [4]int{most - 1, most - 1, most - 1, most - 1}},
		{most, most, [4]int{most, most, most, most}},
		{most, 1, [4]int{most, most, most, most}},
		{most + 1, 2 * most, [4]int{most, most, most, most}},
		{most + 1, 5, [4]int{most, most, most, most}},
		{math.MaxInt, math.MaxInt, [4]int{most, most, most, most}},
		{math.MaxInt, math.MinInt, [4]int{most, most, most, most}},
	} {
		e, now := made(t, 1, []int{1, 2}, c.base, c.most, 100), 100
		for round, wait := range c.waits {
			wantState(t, fmt.Sprintf("base %d, most %d", c.base, c.most), e, round, wait, now)
			now += wait
			e.Tick(now)
		}
		// And base it is again, whatever the wait has grown to.
		wantBool(t, "Heard", e.Heard(9, now), true)
		wantState(t, fmt.Sprintf("base %d, most %d, behind Heard", c.base, c.most), e, 9, c.waits[0], now)
	}
}

// P17.2: Heard.

func TestHeard(t *testing.T) {
	for _, c := range []struct {
		round, heard int
		want         bool
	}{
		{0, 1, true}, {0, 2, true}, {0, 1000, true}, {0, api.MaxRound - 1, true}, {0, api.MaxRound, true},
		{0, 0, false}, {0, -1, false}, {0, math.MinInt, false}, {0, api.MaxRound + 1, false}, {0, math.MaxInt, false},
		{7, 7, true}, {7, 8, true}, {7, api.MaxRound, true},
		{7, 6, false}, {7, 1, false}, {7, 0, false}, {7, -7, false}, {7, math.MinInt, false}, {7, api.MaxRound + 1, false}, {7, math.MaxInt, false},
		{api.MaxRound - 1, api.MaxRound - 1, true}, {api.MaxRound - 1, api.MaxRound, true}, {api.MaxRound - 1, api.MaxRound - 2, false}, {api.MaxRound - 1, api.MaxRound + 1, false},
		{api.MaxRound, api.MaxRound, true}, {api.MaxRound, api.MaxRound - 1, false}, {api.MaxRound, api.MaxRound + 1, false},
	} {
		for _, now := range []int{60, 40, 50, 1000, -1000} {
			e, wait, since := made(t, 1, []int{1, 2, 3}, 10, 30, 0), 10, 0
			if c.round > 0 {
				// Its wait has grown, so that it can be told from base.
				e.Tick(10)
				e.Seen(c.round, 50)
				wait, since = 20, 50
			}
			name := fmt.Sprintf("in round %d, Heard(%d, %d)", c.round, c.heard, now)
			wantState(t, "ahead of "+name, e, c.round, wait, since)
			wantBool(t, name, e.Heard(c.heard, now), c.want)
			if c.want {
				wantState(t, name, e, c.heard, 10, now)
			} else {
				wantState(t, name, e, c.round, wait, since)
			}
		}
	}
}

// Seen.
func TestSeen(t *testing.T) {
	for _, c := range []struct {
		round, seen int
		want        bool
	}{
		{0, 1, true}, {0, 2, true}, {0, 1000, true}, {0, api.MaxRound - 1, true}, {0, api.MaxRound, true},
		{0, 0, false}, {0, -1, false}, {0, math.MinInt, false}, {0, api.MaxRound + 1, false}, {0, math.MaxInt, false},
		{7, 8, true}, {7, 9, true}, {7, api.MaxRound, true},
		{7, 7, false}, {7, 6, false}, {7, 1, false}, {7, 0, false}, {7, -7, false}, {7, math.MinInt, false}, {7, api.MaxRound + 1, false}, {7, math.MaxInt, false},
		{api.MaxRound - 1, api.MaxRound, true}, {api.MaxRound - 1, api.MaxRound - 1, false}, {api.MaxRound - 1, api.MaxRound + 1, false},
		{api.MaxRound, api.MaxRound, false}, {api.MaxRound, api.MaxRound - 1, false}, {api.MaxRound, api.MaxRound + 1, false},
	} {
		for _, now := range []int{60, 40, 50, 1000, -1000} {
			e := made(t, 1, []int{1, 2, 3}, 10, 30, 50)
			e.Heard(c.round, 50)
			name := fmt.Sprintf("in round %d, Seen(%d, %d)", c.round, c.seen, now)
			wantState(t, "ahead of "+name, e, c.round, 10, 50)
			wantBool(t, name, e.Seen(c.seen, now), c.want)
			if c.want {
				wantState(t, name, e, c.seen, 10, now)
			} else {
				wantState(t, name, e, c.round, 10, 50)
			}
		}
	}
}

// Seen leaves the wait as long as it was, whatever that has grown to; Heard makes it base.
func TestSeenKeepsTheWait(t *testing.T) {
	e := made(t, 1, []int{1, 2, 3}, 3, 20, 0)
	now, round := 0, 0
	for _, wait := range []int{3, 6, 12, 20, 20} {
		round += 5
		wantBool(t, "Seen", e.Seen(round, now), true)
		wantState(t, "behind Seen", e, round, wait, now)
		now += wait
		e.Tick(now)
		round++
	}
	wantBool(t, "Heard", e.Heard(round, now+1), true)
	wantState(t, "behind Heard", e, round, 3, now+1)
	wantBool(t, "Seen", e.Seen(round+1, now+2), true)
	wantState(t, "behind Heard and Seen", e, round+1, 3, now+2)
}

// P17.3: Tick.

func TestTick(t *testing.T) {
	e := made(t, 5, []int{2, 5, 9}, 4, 20, 100)
	for _, c := range []struct {
		now         int
		want        bool
		round, wait int
		since       int
	}{
		{100, false, 0, 4, 100},
		{103, false, 0, 4, 100},
		{104, false, 1, 8, 104}, // the turn of 2
		{104, false, 1, 8, 104},
		{111, false, 1, 8, 104},
		{112, true, 2, 16, 112}, // 5
		{112, false, 2, 16, 112},
		{127, false, 2, 16, 112},
		{1000, false, 3, 20, 1000}, // 9; late, and yet just one round goes by
		{1019, false, 3, 20, 1000},
		{1020, false, 4, 20, 1020}, // 2
		{1041, true, 5, 20, 1041},  // 5; it waits from then on, not from when its wait was over
		{1060, false, 5, 20, 1041},
		{1061, false, 6, 20, 1061}, // 9
	} {
		name := fmt.Sprintf("Tick(%d)", c.now)
		wantBool(t, name, e.Tick(c.now), c.want)
		wantState(t, name, e, c.round, c.wait, c.since)
	}
}

// A clock that goes back makes it wait from then on.
func TestTickBack(t *testing.T) {
	for _, back := range []int{49, 40, 39, 0, -1, -1000, math.MinInt + 1, math.MinInt} {
		e := made(t, 1, []int{1}, 10, 30, 50)
		name := fmt.Sprintf("Tick(%d) of one that waits from 50 on", back)
		wantBool(t, name, e.Tick(back), false)
		wantState(t, name, e, 0, 10, back)
		wantBool(t, "the next one, too early", e.Tick(back+9), false)
		wantBool(t, "the next one", e.Tick(back+10), true)
		wantState(t, "behind it", e, 1, 20, back+10)
	}
}

// Times at both ends of what an int holds, as far apart as they may lie.
func TestTickFar(t *testing.T) {
	for _, c := range []struct {
		since, now int
		want       bool
	}{
		{math.MinInt, math.MaxInt, true}, {math.MinInt, 0, true}, {-1, math.MaxInt, true}, {math.MinInt, math.MinInt + 10, true}, {math.MinInt, math.MinInt + 9, false},
		{math.MaxInt, math.MaxInt, false}, {math.MaxInt - 9, math.MaxInt, false}, {math.MaxInt - 10, math.MaxInt, true}, {-5, 4, false}, {-5, 5, true},
		{math.MaxInt, math.MinInt, false}, {0, math.MinInt, false}, {math.MaxInt, -1, false}, {math.MaxInt, math.MaxInt - 11, false},
	} {
		e := made(t, 3, []int{3}, 10, 30, c.since)
		wantBool(t, fmt.Sprintf("Tick(%d) of one that waits from %d on", c.now, c.since), e.Tick(c.now), c.want)
	}
}

// In each round it is true for that member whose turn it is, and for nobody else.
func TestWhoseTurn(t *testing.T) {
	for _, members := range rightSets() {
		for _, round := range []int{1, 2, 3, 4, 7, 8, 9, 1000, 1 << 20, api.MaxRound - 1, api.MaxRound} {
			for me := -1; me <= 10; me++ {
				e := made(t, me, members, 5, 5, 0)
				e.Seen(round-1, 0)
				want := members[(round-1)%len(members)] == me
				wantBool(t, fmt.Sprintf("node %d of %v, round %d", me, members, round), e.Tick(5), want)
				wantState(t, "behind it", e, round, 5, 5)
			}
		}
	}
}

// Behind the last round none begins, whatever the time is.
func TestLastRound(t *testing.T) {
	e := made(t, 1, []int{1}, 10, 30, 0)
	e.Seen(api.MaxRound-1, 0)
	wantBool(t, "Tick into the last round", e.Tick(10), true)
	for _, now := range []int{10, 30, 1000, math.MaxInt, 0, math.MinInt, math.MaxInt} {
		wantBool(t, fmt.Sprintf("Tick(%d)", now), e.Tick(now), false)
		wantState(t, "in the last round", e, api.MaxRound, 20, 0)
	}
	wantBool(t, "Seen", e.Seen(api.MaxRound, 0), false)
	wantBool(t, "Heard", e.Heard(api.MaxRound, 0), true)
	wantState(t, "the last round's leader is heard", e, api.MaxRound, 10, 0)
	wantBool(t, "Tick", e.Tick(math.MaxInt), false)
}

// P17.4: Round and Wait; they change nothing.
func TestRoundWait(t *testing.T) {
	e := made(t, 1, []int{1, 2}, 3, 9, 0)
	for _, step := range []struct {
		do          func() bool
		round, wait int
	}{
		{func() bool { return true }, 0, 3},
		{func() bool { return !e.Tick(2) }, 0, 3},
		{func() bool { return e.Tick(3) }, 1, 6},
		{func() bool { return !e.Tick(9) }, 2, 9},
		{func() bool { return e.Seen(5, 10) }, 5, 9},
		{func() bool { return e.Heard(5, 11) }, 5, 3},
		{func() bool { return !e.Heard(4, 12) }, 5, 3},
	} {
		if !step.do() {
			t.Error("a step's answer")
		}
		for range 3 {
			if e.Round() != step.round || e.Wait() != step.wait {
				t.Errorf("the state is %q, want round %d wait %d", tell(e), step.round, step.wait)
			}
		}
	}
}

// P17.5: timers that are ticked alike.

// ticked lets so many ticks go by for timers that wait from the same time on, some ticks at a time, and tells whose turns came up.
func ticked(t *testing.T, timers []*Timer, members []int, now, ticks int, stride func() int) []int {
	t.Helper()
	var turn []int
	for end := now + ticks; now < end; {
		now += stride()
		at := 0
		for i, e := range timers {
			if e.Tick(now) {
				at++
				turn = append(turn, members[i])
			}
		}
		if at > 1 {
			t.Fatalf("members %v, at %d: %d of them at a time", members, now, at)
		}
	}
	return turn
}

func TestEachInTurn(t *testing.T) {
	rnd := rand.New(rand.NewSource(17))
	for _, members := range rightSets() {
		for range 60 {
			base, most, now := 1+rnd.Intn(12), rnd.Intn(60), rnd.Intn(1000)-500
			var timers []*Timer
			for _, me := range members {
				timers = append(timers, made(t, me, members, base, most, now))
			}
			stride := 1 + rnd.Intn(6)
			turn := ticked(t, timers, members, now, 3000, func() int { return 1 + rnd.Intn(stride) })
			if len(turn) < 3000/(max(base, most)+stride)-1 {
				t.Errorf("members %v, base %d, most %d: only %d turns", members, base, most, len(turn))
			}
			for i, node := range turn {
				if want := members[i%len(members)]; node != want {
					t.Fatalf("members %v: the turn %d is %d's, want %d's", members, i, node, want)
				}
			}
		}
	}
}

// So it is behind hearing the same, too: each tick that ends a wait is just one member's turn.
func TestEachInTurnBehindHearing(t *testing.T) {
	rnd := rand.New(rand.NewSource(175))
	for _, members := range rightSets() {
		for range 40 {
			round, now := 1+rnd.Intn(1000), rnd.Intn(100)
			var timers []*Timer
			for _, me := range members {
				e := made(t, me, members, 5, 20, 0)
				e.Heard(round, now)
				timers = append(timers, e)
			}
			for i, node := range ticked(t, timers, members, now, 500, func() int { return 1 }) {
				if want := members[(round+i)%len(members)]; node != want {
					t.Fatalf("members %v, behind round %d: the turn %d is %d's, want %d's", members, round, i, node, want)
				}
			}
		}
	}
}

// Rules 1 and 5: a nil timer, and one that New hasn't made.
func TestNil(t *testing.T) {
	for _, e := range []*Timer{nil, {}} {
		for _, round := range []int{math.MinInt, -1, 0, 1, 2, api.MaxRound, math.MaxInt} {
			for _, now := range []int{math.MinInt, -1, 0, 1, 100, math.MaxInt} {
				if e.Heard(round, now) || e.Seen(round, now) || e.Tick(now) || e.Round() != 0 || e.Wait() != 0 {
					t.Errorf("a timer that isn't one does something at Heard, Seen(%d, %d), Tick(%d)", round, now, now)
				}
			}
		}
	}
}

// Rule 4: the members are neither changed nor kept, nor is the room behind them.
func TestMemory(t *testing.T) {
	room := []int{1, 2, 3, 4, 5}
	members := room[:3]
	e := made(t, 2, members, 10, 10, 0)
	if !slices.Equal(room, []int{1, 2, 3, 4, 5}) {
		t.Error("New has changed its members:", room)
	}
	copy(room, []int{9, 9, 9, 9, 9})
	for round, want := range []bool{false, true, false, false, true} {
		wantBool(t, fmt.Sprint("round ", round+1), e.Tick(10*(round+1)), want)
	}
	if !slices.Equal(room, []int{9, 9, 9, 9, 9}) {
		t.Error("Tick has changed its members:", room)
	}
}

// Rule 6: two timers never meet.
func TestTwo(t *testing.T) {
	members := []int{1, 2}
	a, b := made(t, 1, members, 10, 30, 0), made(t, 1, members, 10, 30, 0)
	a.Heard(7, 5)
	a.Tick(15)
	wantState(t, "one", a, 8, 20, 15)
	wantState(t, "the other one", b, 0, 10, 0)
}

// The whole against a plain model, with whole numbers of any size.

type model struct {
	me          int
	members     []int
	base, most  int
	round, wait int
	since       int
}

func newModel(me int, members []int, base, most, now int) *model {
	m := &model{me: me, members: slices.Clone(members), base: base, most: most, since: now}
	if m.base < 1 {
		m.base = 1
	}
	if m.base > 1<<20 {
		m.base = 1 << 20
	}
	if m.most < m.base {
		m.most = m.base
	}
	if m.most > 1<<20 {
		m.most = 1 << 20
	}
	m.wait = m.base
	return m
}

func (m *model) heard(round, now int) bool {
	if round < m.round || round < 1 || round > 1<<40 {
		return false
	}
	m.round, m.since, m.wait = round, now, m.base
	return true
}

func (m *model) seen(round, now int) bool {
	if round <= m.round || round > 1<<40 {
		return false
	}
	m.round, m.since = round, now
	return true
}

func (m *model) tick(now int) bool {
	if m.round == 1<<40 {
		return false
	}
	if now < m.since {
		m.since = now
	}
	gone := new(big.Int).Sub(big.NewInt(int64(now)), big.NewInt(int64(m.since)))
	if gone.Cmp(big.NewInt(int64(m.wait))) < 0 {
		return false
	}
	m.round++
	m.since = now
	m.wait *= 2
	if m.wait > m.most {
		m.wait = m.most
	}
	return m.members[(m.round-1)%len(m.members)] == m.me
}

// feed makes numbers out of bytes, zeros behind their end.
type feed []byte

func (f *feed) upTo(n int) int {
	if len(*f) == 0 {
		return 0
	}
	b := int((*f)[0])
	*f = (*f)[1:]
	return b % n
}

// time is a time, mostly some ticks behind the last one, now and then anywhere.
func (f *feed) time(last int) int {
	switch f.upTo(12) {
	case 0:
		return last - f.upTo(50)
	case 1:
		return []int{math.MinInt, math.MinInt + 1, -1, 0, 1, math.MaxInt - 30, math.MaxInt - 1, math.MaxInt}[f.upTo(8)]
	}
	if last > math.MaxInt-100 {
		return last
	}
	return last + f.upTo(40)
}

// number is a round, a base or a most, mostly a small one.
func (f *feed) number(near int) int {
	switch f.upTo(16) {
	case 0:
		return []int{math.MinInt, -1, 0, 1, api.MaxLease, api.MaxLease + 1, api.MaxRound - 1, api.MaxRound, api.MaxRound + 1, math.MaxInt}[f.upTo(10)]
	case 1, 2, 3:
		return near - f.upTo(5)
	}
	return near + f.upTo(8)
}

// against runs a timer and its model side by side, by what the bytes say.
func against(t *testing.T, b []byte) {
	f := feed(b)
	members := rightSets()[f.upTo(len(rightSets()))]
	me, base, most, now := f.upTo(10), f.number(5), f.number(20), f.upTo(100)-50
	e, m := made(t, me, members, base, most, now), newModel(me, members, base, most, now)
	for len(f) > 0 {
		now = f.time(now)
		round := f.number(m.round)
		var what string
		var got, want bool
		switch f.upTo(6) {
		case 0:
			what, got, want = fmt.Sprintf("Heard(%d, %d)", round, now), e.Heard(round, now), m.heard(round, now)
		case 1:
			what, got, want = fmt.Sprintf("Seen(%d, %d)", round, now), e.Seen(round, now), m.seen(round, now)
		default:
			what, got, want = fmt.Sprintf("Tick(%d)", now), e.Tick(now), m.tick(now)
		}
		if got != want || e.Round() != m.round || e.Wait() != m.wait {
			t.Fatalf("%s = %v with %q, want %v with round %d wait %d", what, got, tell(e), want, m.round, m.wait)
		}
	}
}

func TestAgainstModel(t *testing.T) {
	rnd := rand.New(rand.NewSource(1))
	for range 20000 {
		b := make([]byte, rnd.Intn(300))
		rnd.Read(b)
		against(t, b)
	}
}

func FuzzAgainstModel(f *testing.F) {
	f.Add([]byte("a timer tells when a node has waited long enough for its leader"))
	f.Fuzz(against)
}

// The chapter's example.
func TestExample(t *testing.T) {
	e := made(t, 2, []int{1, 2, 3}, 10, 30, 0)
	wantBool(t, "Tick(9)", e.Tick(9), false)
	wantState(t, "Tick(9)", e, 0, 10, 0)
	wantBool(t, "Tick(10)", e.Tick(10), false)
	wantState(t, "Tick(10)", e, 1, 20, 10)
	wantBool(t, "Tick(30)", e.Tick(30), true)
	wantState(t, "Tick(30)", e, 2, 30, 30)
	wantBool(t, "Heard(2, 35)", e.Heard(2, 35), true)
	wantState(t, "Heard(2, 35)", e, 2, 10, 35)
	wantBool(t, "Tick(45)", e.Tick(45), false)
	wantState(t, "Tick(45)", e, 3, 20, 45)
}
