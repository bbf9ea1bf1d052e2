package lease

import (
	"fmt"
	"math"
	"math/big"
	"math/rand"
	"slices"
	"testing"

	"synod/api"
	"synod/drift"
)

func bal(round, node int) api.Bal { return api.Bal{Round: round, Node: node} }

// nobody is the ballot to which a granter that has started anew grants.
var nobody = api.Bal{}

// Some ballots: none of the invalid ones is one that a node can have.
func validBals() []api.Bal {
	return []api.Bal{bal(1, 1), bal(1, 2), bal(2, 1), bal(7, 9), bal(api.MaxRound, 1), bal(api.MaxRound, 9)}
}

func invalidBals() []api.Bal {
	return []api.Bal{nobody, bal(0, 1), bal(1, 0), bal(-1, 1), bal(1, -1), bal(1, 10), bal(api.MaxRound+1, 1), bal(math.MaxInt, 1), bal(math.MinInt, 1), bal(1, math.MaxInt), bal(1, math.MinInt)}
}

func bals() []api.Bal { return append(validBals(), invalidBals()...) }

func wantBool(t *testing.T, what string, got, want bool) {
	t.Helper()
	if got != want {
		t.Errorf("%s = %v, want %v", what, got, want)
	}
}

// bars tells whether a granter bars a ballot at a time; the granter itself stays as it is.
func bars(g *Granter, b api.Bal, now int) bool {
	twin := *g
	return twin.Bars(b, now)
}

// wantGrant is that a grant to a ballot stands from a time on, for so many ticks, to the tick.
func wantGrant(t *testing.T, what string, g *Granter, to api.Bal, since, length int) {
	t.Helper()
	for _, b := range bals() {
		for _, at := range []int{since, since + length/2, since + length - 1} {
			wantBool(t, fmt.Sprintf("%s: Bars(%v, %d)", what, b, at), bars(g, b, at), b != to)
		}
		wantBool(t, fmt.Sprintf("%s: Bars(%v, %d)", what, b, since+length), bars(g, b, since+length), false)
	}
}

// wantNone is that no grant stands, whatever time it is.
func wantNone(t *testing.T, what string, g *Granter) {
	t.Helper()
	for _, b := range bals() {
		for _, at := range []int{math.MinInt, -100, -1, 0, 1, 9, 10, 100, math.MaxInt} {
			wantBool(t, fmt.Sprintf("%s: Bars(%v, %d)", what, b, at), bars(g, b, at), false)
		}
	}
}

// P18.1: NewGranter.

func TestNewGranter(t *testing.T) {
	for _, c := range []struct{ length, ticks int }{
		{1, 1}, {2, 2}, {10, 10}, {api.MaxLease - 1, api.MaxLease - 1}, {api.MaxLease, api.MaxLease}, {api.MaxLease + 1, api.MaxLease}, {1 << 40, api.MaxLease}, {math.MaxInt, api.MaxLease},
	} {
		for _, now := range []int{0, 5, -5, 1000, -1 << 40, math.MinInt, math.MaxInt - 2*api.MaxLease} {
			name := fmt.Sprintf("NewGranter(%d, %d)", c.length, now)
			wantNone(t, name, NewGranter(c.length, now, false))
			wantGrant(t, name+" anew", NewGranter(c.length, now, true), nobody, now, c.ticks)
			// A grant that is given stands as long.
			g := NewGranter(c.length, now, false)
			wantBool(t, name+": Grant", g.Grant(bal(3, 3), now+1), true)
			wantGrant(t, name+", behind Grant", g, bal(3, 3), now+1, c.ticks)
		}
	}
}

func TestNoLength(t *testing.T) {
	for _, length := range []int{0, -1, -10, math.MinInt} {
		for _, anew := range []bool{false, true} {
			for _, now := range []int{0, 5, -5, math.MinInt, math.MaxInt} {
				g := NewGranter(length, now, anew)
				name := fmt.Sprintf("NewGranter(%d, %d, %v)", length, now, anew)
				wantNone(t, name, g)
				for _, b := range bals() {
					for _, at := range []int{math.MinInt, 0, 5, math.MaxInt} {
						wantBool(t, fmt.Sprintf("%s: Grant(%v, %d)", name, b, at), g.Grant(b, at), false)
					}
				}
				wantNone(t, name+", behind Grant", g)
			}
		}
	}
}

// One that has started anew grants to nobody till its grant to nobody is over.
func TestAnew(t *testing.T) {
	g := NewGranter(10, 100, true)
	for now := 100; now < 110; now++ {
		for _, b := range bals() {
			wantBool(t, fmt.Sprintf("Grant(%v, %d)", b, now), g.Grant(b, now), false)
		}
	}
	wantBool(t, "Grant", g.Grant(bal(1, 2), 110), true)
	wantGrant(t, "behind it", g, bal(1, 2), 110, 10)
}

// P18.2: Bars and Grant.

func TestGrant(t *testing.T) {
	for _, b := range validBals() {
		for _, now := range []int{5, 0, -5, math.MinInt, math.MaxInt - 10} {
			g := NewGranter(10, 0, false)
			wantBool(t, fmt.Sprintf("Grant(%v, %d)", b, now), g.Grant(b, now), true)
			wantGrant(t, fmt.Sprintf("behind Grant(%v, %d)", b, now), g, b, now, 10)
		}
	}
}

func TestGrantInvalid(t *testing.T) {
	for _, b := range invalidBals() {
		g := NewGranter(10, 0, false)
		wantBool(t, fmt.Sprintf("Grant(%v, 5)", b), g.Grant(b, 5), false)
		wantNone(t, fmt.Sprintf("behind Grant(%v, 5)", b), g)
		g.Grant(bal(1, 2), 5)
		for _, at := range []int{7, 14} {
			wantBool(t, fmt.Sprintf("Grant(%v, %d)", b, at), g.Grant(b, at), false)
		}
		wantGrant(t, fmt.Sprintf("behind another one and Grant(%v)", b), g, bal(1, 2), 5, 10)
		wantBool(t, fmt.Sprintf("Grant(%v, 15)", b), g.Grant(b, 15), false)
		wantNone(t, fmt.Sprintf("behind Grant(%v, 15)", b), g)
	}
}

// A grant to the same ballot begins anew; one to another is refused while the first stands, higher or lower.
func TestGrantAgain(t *testing.T) {
	for _, other := range []api.Bal{bal(2, 3), bal(1, 3), bal(2, 2), bal(1, 1), bal(api.MaxRound, 9)} {
		g := NewGranter(10, 0, false)
		wantBool(t, "Grant(1 of 2, 5)", g.Grant(bal(1, 2), 5), true)
		wantBool(t, "Grant(other, 5)", g.Grant(other, 5), false)
		wantBool(t, "Grant(other, 14)", g.Grant(other, 14), false)
		wantGrant(t, "behind a refusal", g, bal(1, 2), 5, 10)
		wantBool(t, "Grant(1 of 2, 14)", g.Grant(bal(1, 2), 14), true)
		wantGrant(t, "behind the second grant", g, bal(1, 2), 14, 10)
		wantBool(t, "Grant(other, 15)", g.Grant(other, 15), false)
		wantBool(t, "Grant(other, 23)", g.Grant(other, 23), false)
		wantBool(t, "Grant(other, 24)", g.Grant(other, 24), true)
		wantGrant(t, "behind the other one's", g, other, 24, 10)
		wantBool(t, "Grant(1 of 2, 33)", g.Grant(bal(1, 2), 33), false)
	}
}

// Bars gives nothing and takes nothing, as long as the clock goes on.
func TestBarsOnlyAsks(t *testing.T) {
	g := NewGranter(10, 0, false)
	g.Grant(bal(1, 2), 5)
	for now := 5; now < 15; now++ {
		for _, b := range bals() {
			wantBool(t, fmt.Sprintf("Bars(%v, %d)", b, now), g.Bars(b, now), b != bal(1, 2))
		}
	}
	wantGrant(t, "behind Bars", g, bal(1, 2), 5, 10)
}

// At which calls the clock says a time.
func calls() []struct {
	name string
	call func(g *Granter, now int) bool
} {
	return []struct {
		name string
		call func(g *Granter, now int) bool
	}{
		{"Bars of another ballot", func(g *Granter, now int) bool { return g.Bars(bal(9, 9), now) }},
		{"Bars of the same ballot", func(g *Granter, now int) bool { return g.Bars(bal(1, 2), now) }},
		{"Bars of no ballot", func(g *Granter, now int) bool { return g.Bars(nobody, now) }},
		{"Grant to another ballot", func(g *Granter, now int) bool { return g.Grant(bal(9, 9), now) }},
		{"Grant to no ballot", func(g *Granter, now int) bool { return g.Grant(nobody, now) }},
	}
}

// A clock that goes back makes the grant stand from then on, at whatever call it is seen.
func TestBack(t *testing.T) {
	for _, c := range calls() {
		for _, back := range []int{49, 41, 40, 39, 0, -1, -1000, math.MinInt} {
			g := NewGranter(10, 0, false)
			g.Grant(bal(1, 2), 50)
			c.call(g, back)
			wantGrant(t, fmt.Sprintf("behind %s at %d", c.name, back), g, bal(1, 2), back, 10)
			// And it isn't put off when the clock comes to where it was.
			wantBool(t, "Bars", g.Bars(bal(9, 9), back+9), true)
			wantBool(t, "Bars", g.Bars(bal(9, 9), back+10), false)
			wantNone(t, "behind that", g)
		}
	}
	for _, c := range calls() {
		g := NewGranter(10, 50, true)
		c.call(g, 20)
		wantGrant(t, "one that has started anew, behind "+c.name, g, nobody, 20, 10)
	}
}

// One that is over stands no more, even if the clock goes back, at whatever call that is seen.
func TestOver(t *testing.T) {
	for _, c := range calls() {
		for _, now := range []int{60, 61, 1000, math.MaxInt} {
			if c.name == "Grant to another ballot" {
				continue // a new grant takes its place
			}
			g := NewGranter(10, 0, false)
			g.Grant(bal(1, 2), 50)
			wantBool(t, fmt.Sprintf("%s at %d", c.name, now), c.call(g, now), false)
			wantNone(t, fmt.Sprintf("behind %s at %d", c.name, now), g)
		}
	}
	g := NewGranter(10, 0, true)
	g.Bars(bal(1, 2), 10)
	wantNone(t, "one that has started anew", g)
}

// Times at both ends of what an int holds, as far apart as they may lie.
func TestGranterFar(t *testing.T) {
	for _, c := range []struct {
		given, now int
		bars       bool
	}{
		{math.MinInt, math.MaxInt, false}, {math.MinInt, 0, false}, {math.MinInt, -1, false}, {-1, math.MaxInt, false}, {-5, math.MaxInt, false},
		{math.MinInt, math.MinInt + 9, true}, {math.MinInt, math.MinInt + 10, false}, {math.MinInt, math.MinInt, true},
		{math.MaxInt, math.MaxInt, true}, {math.MaxInt - 9, math.MaxInt, true}, {math.MaxInt - 10, math.MaxInt, false},
		{-5, 4, true}, {-5, 5, false}, {math.MaxInt, math.MinInt, true}, {0, math.MinInt, true}, {math.MaxInt, -1, true},
	} {
		g := NewGranter(10, 0, false)
		wantBool(t, fmt.Sprintf("Grant at %d", c.given), g.Grant(bal(1, 2), c.given), true)
		wantBool(t, fmt.Sprintf("Bars at %d of what was given at %d", c.now, c.given), g.Bars(bal(1, 3), c.now), c.bars)
	}
}

// P18.3: NewHolder, Granted, Valid, Clear.

// made is a holder with what NewHolder asks for.
func made(t *testing.T, members []int, length, rho int) *Holder {
	t.Helper()
	h := NewHolder(members, length, rho)
	if h == nil {
		t.Fatalf("NewHolder(%v, %d, %d) is nil", members, length, rho)
	}
	return h
}

// wantValid is that the leases are valid from a time on up to another one, and at no other time.
func wantValid(t *testing.T, what string, h *Holder, first, last int) {
	t.Helper()
	for _, at := range []int{math.MinInt, -1, 0, first - 1, first, (first + last) / 2, last, last + 1, math.MaxInt} {
		wantBool(t, fmt.Sprintf("%s: Valid(%d)", what, at), h.Valid(at), first <= at && at <= last)
	}
}

// wantNever is that they aren't valid at any time.
func wantNever(t *testing.T, what string, h *Holder) {
	t.Helper()
	wantValid(t, what, h, 1, 0)
	for at := -100; at <= 100; at++ {
		wantBool(t, fmt.Sprintf("%s: Valid(%d)", what, at), h.Valid(at), false)
	}
}

func rightSets() [][]int {
	return [][]int{{1}, {9}, {1, 2, 3}, {2, 5, 9}, {4, 6}, {3, 4, 5, 6, 7, 8, 9}}
}

func TestNewHolder(t *testing.T) {
	for _, members := range rightSets() {
		for _, length := range []int{10, 0, -1, api.MaxLease, api.MaxLease + 1, math.MaxInt, math.MinInt} {
			for _, rho := range []int{0, 500, -1, 501, math.MaxInt, math.MinInt} {
				wantNever(t, "one without grants", made(t, members, length, rho))
			}
		}
	}
	for _, members := range [][]int{nil, {}, {0}, {10}, {-1}, {math.MinInt}, {math.MaxInt}, {1, 1}, {2, 1}, {0, 1}, {9, 10}, {1, 2, 3, 4, 5, 6, 7, 8}, make([]int, 1000)} {
		if NewHolder(members, 10, 0) != nil {
			t.Errorf("NewHolder(%v) isn't nil", members)
		}
	}
}

func TestGranted(t *testing.T) {
	for _, members := range rightSets() {
		for node := -1; node <= 10; node++ {
			for _, asked := range []int{0, 1, -1, 1000, math.MinInt, math.MaxInt} {
				h := made(t, members, 10, 0)
				wantBool(t, fmt.Sprintf("members %v: Granted(%d, %d)", members, node, asked), h.Granted(node, asked), slices.Contains(members, node))
			}
		}
		for _, node := range []int{math.MinInt, math.MaxInt} {
			wantBool(t, fmt.Sprint("Granted by ", node), made(t, members, 10, 0).Granted(node, 0), false)
		}
	}
}

// Those that are no members don't count, how many they may be; nor does a member that grants more than once.
func TestWhoCounts(t *testing.T) {
	h := made(t, []int{2, 5, 9}, 10, 0)
	for _, node := range []int{1, 3, 4, 6, 7, 8, 0, 10, -2, 2, 2, 2} {
		h.Granted(node, 4)
	}
	wantNever(t, "one member", h)
	wantBool(t, "Granted", h.Granted(9, 4), true)
	wantValid(t, "two members", h, 4, 13)
}

// A quorum it must be, of each number of members, whoever they are.
func TestQuorum(t *testing.T) {
	for n := 1; n <= 7; n++ {
		members := []int{1, 2, 4, 5, 6, 8, 9}[:n]
		for set := range 1 << n {
			h, there := made(t, members, 10, 0), 0
			for i, node := range members {
				if set>>i&1 == 1 {
					h.Granted(node, 20)
					there++
				}
			}
			wantBool(t, fmt.Sprintf("%d of %d: Valid", there, n), h.Valid(20), 2*there > n)
			wantBool(t, fmt.Sprintf("%d of %d: Valid ahead of it", there, n), h.Valid(19), false)
		}
	}
}

// How long a grant counts: drift.Hold of the length, from when it was asked for.
func TestHowLong(t *testing.T) {
	for _, c := range []struct{ length, rho, hold int }{
		{10, 0, 10}, {1, 0, 1}, {1000, 100, 818}, {10, 200, 6}, {7, 500, 2}, {3, 500, 1},
		{api.MaxLease, 0, api.MaxLease}, {api.MaxLease, 500, 349525}, {api.MaxLease, 1, 1046480},
	} {
		for _, asked := range []int{4, 0, -4, -1 << 40, 1 << 40, math.MinInt + 1, math.MaxInt - 2*api.MaxLease} {
			h := made(t, []int{3}, c.length, c.rho)
			h.Granted(3, asked)
			wantValid(t, fmt.Sprintf("length %d, rho %d, asked %d", c.length, c.rho, asked), h, asked, asked+c.hold-1)
			if drift.Hold(c.length, c.rho) != c.hold {
				t.Error("drift.Hold", c.length, c.rho)
			}
		}
	}
	// None at all: too short for its drift, or out of the bounds.
	for _, c := range [][2]int{{0, 0}, {0, 500}, {1, 1}, {2, 500}, {-1, 0}, {math.MinInt, 0}, {api.MaxLease + 1, 0}, {math.MaxInt, 0}, {10, -1}, {10, 501}, {10, math.MaxInt}, {10, math.MinInt}} {
		h := made(t, []int{3}, c[0], c[1])
		wantBool(t, "Granted", h.Granted(3, 4), true)
		wantNever(t, fmt.Sprint("length and rho ", c), h)
	}
}

// As many of the grants as a quorum has must count at one time.
func TestAtOneTime(t *testing.T) {
	h := made(t, []int{1, 2, 3, 4, 5}, 10, 0)
	for node, asked := range map[int]int{1: 0, 2: 3, 3: 7, 4: 12, 5: 30} {
		h.Granted(node, asked)
	}
	// 1, 2 and 3 from 7 on, 2, 3 and 4 from 12 on: 1's is over at 10, 2's at 13.
	for at := -5; at < 60; at++ {
		wantBool(t, fmt.Sprintf("Valid(%d)", at), h.Valid(at), at >= 7 && at < 10 || at == 12)
	}
}

// Of a member's grants the one that was asked for last counts, in whatever order they come; asking changes nothing.
func TestLatest(t *testing.T) {
	for _, c := range []struct {
		asked []int
		last  int
	}{
		{[]int{4, 8}, 8}, {[]int{8, 4}, 8}, {[]int{4, 8, 2}, 8}, {[]int{4, 4}, 4}, {[]int{-9, -3, -5}, -3}, {[]int{-1, 0}, 0}, {[]int{0, -1}, 0},
		{[]int{math.MinInt, -100}, -100}, {[]int{-100, math.MinInt}, -100}, {[]int{7, 6, 5, 4, 3, 2, 1, 0}, 7},
	} {
		h := made(t, []int{1}, 10, 0)
		for i, asked := range c.asked {
			wantBool(t, fmt.Sprintf("Granted(1, %d)", asked), h.Granted(1, asked), true)
			top := slices.Max(c.asked[:i+1])
			wantBool(t, fmt.Sprintf("asked %v: Valid(%d)", c.asked[:i+1], top), h.Valid(top), true)
		}
		wantValid(t, fmt.Sprint("asked ", c.asked), h, c.last, c.last+9)
	}
}

// Times at both ends of what an int holds.
func TestHolderFar(t *testing.T) {
	for _, c := range []struct {
		asked, now int
		want       bool
	}{
		{math.MinInt, math.MaxInt, false}, {math.MaxInt, math.MinInt, false}, {math.MinInt, 0, false}, {math.MinInt, -1, false}, {math.MaxInt, -1, false}, {0, math.MinInt, false},
		{math.MinInt, math.MinInt, true}, {math.MinInt, math.MinInt + 9, true}, {math.MinInt, math.MinInt + 10, false},
		{math.MaxInt, math.MaxInt, true}, {math.MaxInt, math.MaxInt - 1, false}, {math.MaxInt - 9, math.MaxInt, true}, {math.MaxInt - 10, math.MaxInt, false},
	} {
		h := made(t, []int{1}, 10, 0)
		h.Granted(1, c.asked)
		wantBool(t, fmt.Sprintf("asked %d: Valid(%d)", c.asked, c.now), h.Valid(c.now), c.want)
	}
}

func TestClear(t *testing.T) {
	h := made(t, []int{1, 2, 3}, 10, 0)
	h.Clear()
	wantNever(t, "one without grants", h)
	h.Granted(1, 4)
	h.Granted(2, 6)
	wantValid(t, "two grants", h, 6, 13)
	h.Clear()
	wantNever(t, "behind Clear", h)
	h.Granted(3, 5)
	wantNever(t, "one grant behind Clear", h)
	// What was asked for earlier counts again: the later time is forgotten too.
	h.Granted(1, 2)
	wantValid(t, "two grants behind Clear", h, 5, 11)
}

// Rule 5, and rule 1: nil ones, and such as New hasn't made.
func TestNil(t *testing.T) {
	for _, now := range []int{math.MinInt, -1, 0, 1, 100, math.MaxInt} {
		for _, g := range []*Granter{nil, {}} {
			for _, b := range bals() {
				if g.Bars(b, now) || g.Grant(b, now) || g.Bars(b, now) {
					t.Errorf("a granter that isn't one bars or grants %v at %d", b, now)
				}
			}
		}
		for _, h := range []*Holder{nil, {}} {
			for node := range 11 {
				if h.Granted(node, now) || h.Valid(now) {
					t.Errorf("a holder that isn't one is granted something by %d at %d", node, now)
				}
			}
			h.Clear()
			wantBool(t, "Valid", h.Valid(now), false)
		}
	}
}

// Rule 4: the members are neither changed nor kept, nor is the room behind them.
func TestMemory(t *testing.T) {
	room := []int{1, 2, 3, 4, 5}
	members := room[:3]
	h := made(t, members, 10, 0)
	h.Granted(1, 4)
	h.Granted(3, 4)
	wantBool(t, "Valid", h.Valid(4), true)
	if !slices.Equal(room, []int{1, 2, 3, 4, 5}) {
		t.Error("the members are changed:", room)
	}
	copy(room, []int{9, 9, 9, 9, 9})
	wantBool(t, "Valid", h.Valid(4), true)
	wantBool(t, "Granted by 9", h.Granted(9, 4), false)
	wantBool(t, "Granted by 2", h.Granted(2, 4), true)
}

// Rule 6: two of a kind never meet.
func TestTwo(t *testing.T) {
	a, b := NewGranter(10, 0, false), NewGranter(10, 0, false)
	a.Grant(bal(1, 2), 5)
	wantGrant(t, "one", a, bal(1, 2), 5, 10)
	wantNone(t, "the other one", b)
	members := []int{1}
	h, k := made(t, members, 10, 0), made(t, members, 10, 0)
	h.Granted(1, 4)
	wantValid(t, "one", h, 4, 13)
	wantNever(t, "the other one", k)
	k.Clear()
	wantValid(t, "one, behind the other one's Clear", h, 4, 13)
}

// Both against plain models, with whole numbers of any size.

// gone is how many ticks lie between two times.
func gone(since, now int) *big.Int {
	return new(big.Int).Sub(big.NewInt(int64(now)), big.NewInt(int64(since)))
}

type grant struct {
	to    api.Bal
	given int
}

type granterModel struct {
	length int
	grants []grant // one at most
}

func (m *granterModel) see(now int) {
	if len(m.grants) == 0 {
		return
	}
	if now < m.grants[0].given {
		m.grants[0].given = now
	}
	if gone(m.grants[0].given, now).Cmp(big.NewInt(int64(m.length))) >= 0 {
		m.grants = nil
	}
}

func (m *granterModel) bars(b api.Bal, now int) bool {
	m.see(now)
	return len(m.grants) > 0 && m.grants[0].to != b
}

func (m *granterModel) grant(b api.Bal, now int) bool {
	m.see(now)
	valid := b.Round >= 1 && b.Round <= 1<<40 && b.Node >= 1 && b.Node <= 9
	if !valid || m.bars(b, now) || m.length == 0 {
		return false
	}
	m.grants = []grant{{b, now}}
	return true
}

func newGranterModel(length, now int, anew bool) *granterModel {
	m := &granterModel{length: max(0, min(length, 1<<20))}
	if anew && m.length > 0 {
		m.grants = []grant{{given: now}}
	}
	return m
}

// holderModel keeps all that was granted.
type holderModel struct {
	members []int
	hold    int
	all     [][2]int
}

func (m *holderModel) valid(now int) bool {
	quorum := 0
	for _, member := range m.members {
		latest, any := 0, false
		for _, g := range m.all {
			if g[0] == member && (!any || g[1] > latest) {
				latest, any = g[1], true
			}
		}
		if d := gone(latest, now); any && d.Sign() >= 0 && d.Cmp(big.NewInt(int64(m.hold))) < 0 {
			quorum++
		}
	}
	return 2*quorum > len(m.members)
}

// feed makes numbers out of bytes, zeros behind their end.
type feed []byte

func (f *feed) upTo(n int) int {
	if len(*f) == 0 {
		return 0
	}
	b := int((*f)[0])
	*f = (*f)[1:]
	return b % n
}

// time is a time, mostly some ticks behind the last one, now and then anywhere.
func (f *feed) time(last int) int {
	switch f.upTo(12) {
	case 0:
		return max(last, math.MinInt+100) - f.upTo(50)
	case 1:
		return []int{math.MinInt, math.MinInt + 1, -1, 0, 1, math.MaxInt - 30, math.MaxInt - 1, math.MaxInt}[f.upTo(8)]
	}
	return min(last, math.MaxInt-100) + f.upTo(8)
}

// length is a length of grants, mostly a small one.
func (f *feed) length() int {
	if f.upTo(8) == 0 {
		return []int{math.MinInt, -1, 0, 1, api.MaxLease, api.MaxLease + 1, math.MaxInt}[f.upTo(7)]
	}
	return 1 + f.upTo(30)
}

func (f *feed) bal() api.Bal {
	if f.upTo(8) == 0 {
		return invalidBals()[f.upTo(len(invalidBals()))]
	}
	return bal(1+f.upTo(2), 1+f.upTo(2))
}

// granterAgainst runs a granter and its model side by side, by what the bytes say.
func granterAgainst(t *testing.T, b []byte) {
	f := feed(b)
	length, now, anew := f.length(), f.time(0), f.upTo(2) == 1
	g, m := NewGranter(length, now, anew), newGranterModel(length, now, anew)
	for len(f) > 0 {
		now = f.time(now)
		b := f.bal()
		if f.upTo(2) == 0 {
			if got, want := g.Bars(b, now), m.bars(b, now); got != want {
				t.Fatalf("length %d: Bars(%v, %d) = %v, want %v", length, b, now, got, want)
			}
		} else if got, want := g.Grant(b, now), m.grant(b, now); got != want {
			t.Fatalf("length %d: Grant(%v, %d) = %v, want %v", length, b, now, got, want)
		}
	}
}

// holderAgainst does so of a holder.
func holderAgainst(t *testing.T, b []byte) {
	f := feed(b)
	members := rightSets()[f.upTo(len(rightSets()))]
	length, rho := f.length(), f.upTo(6)*110-20
	h, m, now := made(t, members, length, rho), &holderModel{members: members, hold: drift.Hold(length, rho)}, 0
	for len(f) > 0 {
		now = f.time(now)
		switch f.upTo(10) {
		case 0:
			h.Clear()
			m.all = nil
		case 1, 2, 3, 4, 5:
			node := f.upTo(11)
			if got, want := h.Granted(node, now), slices.Contains(members, node); got != want {
				t.Fatalf("members %v: Granted(%d, %d) = %v, want %v", members, node, now, got, want)
			}
			m.all = append(m.all, [2]int{node, now})
		}
		if got, want := h.Valid(now), m.valid(now); got != want {
			t.Fatalf("members %v, length %d, rho %d, grants %v: Valid(%d) = %v, want %v", members, length, rho, m.all, now, got, want)
		}
	}
}

func TestAgainstModels(t *testing.T) {
	rnd := rand.New(rand.NewSource(18))
	for range 10000 {
		b := make([]byte, rnd.Intn(300))
		rnd.Read(b)
		granterAgainst(t, b)
		holderAgainst(t, b)
	}
}

func FuzzAgainstModels(f *testing.F) {
	f.Add([]byte("members grant a leader that they promise no other ballot for a while"))
	f.Fuzz(func(t *testing.T, b []byte) {
		granterAgainst(t, b)
		holderAgainst(t, b)
	})
}

// P18.4: as long as a holder's leases are valid, a quorum bars every other ballot.

// claim is a holder's ballot asked for at a time by the holder's clock; or, on its way back, that a node has granted it.
type claim struct {
	holder int // its place in the cluster's list
	node   int
	asked  int
}

type leader struct {
	bal  api.Bal
	node int // whose clock it goes by
	*Holder
}

// cluster is members with clocks that keep within a drift, and leaders that ask them for grants.
type cluster struct {
	rnd      *rand.Rand
	members  []int
	length   int
	rho      int
	clocks   map[int]int
	granters map[int]*Granter
	leaders  []leader
	asked    []claim
	granted  []claim
}

func newCluster(rnd *rand.Rand, members []int, length, rho int) *cluster {
	c := &cluster{rnd: rnd, members: members, length: length, rho: rho, clocks: map[int]int{}, granters: map[int]*Granter{}}
	for _, node := range members {
		c.clocks[node] = rnd.Intn(1000) - 500
		c.granters[node] = NewGranter(length, c.clocks[node], rnd.Intn(2) == 0)
	}
	for round := range 4 {
		node := members[rnd.Intn(len(members))]
		c.leaders = append(c.leaders, leader{bal(round+1, node), node, NewHolder(members, length, rho)})
	}
	return c
}

// pass lets time go by; each clock goes as slowly or as fast as it may, or between.
func (c *cluster) pass() {
	time := c.rnd.Intn(c.length/4 + 2)
	slow, fast := (time*(1000-c.rho)+999)/1000, time*(1000+c.rho)/1000
	for _, node := range c.members {
		c.clocks[node] += []int{slow, slow, fast, fast, slow + c.rnd.Intn(fast-slow+1)}[c.rnd.Intn(5)]
	}
}

// one is one of those that are under way, mostly a young one; it may stay there, to come again.
func (c *cluster) one(under *[]claim) (claim, bool) {
	if len(*under) == 0 {
		return claim{}, false
	}
	i := max(c.rnd.Intn(len(*under)), c.rnd.Intn(len(*under)))
	x := (*under)[i]
	if c.rnd.Intn(3) > 0 {
		*under = slices.Delete(*under, i, i+1)
	}
	if len(*under) > 40 {
		*under = slices.Delete(*under, 0, 20)
	}
	return x, true
}

// step does one thing.
func (c *cluster) step() {
	at, node := c.rnd.Intn(len(c.leaders)), c.members[c.rnd.Intn(len(c.members))]
	switch n := c.rnd.Intn(200); {
	case n < 2:
		c.leaders[at].Clear()
	case n < 4:
		// It starts anew, and has forgotten what it has granted.
		c.granters[node] = NewGranter(c.length, c.clocks[node], true)
	case n < 30:
		c.pass()
	case n < 60:
		now := c.clocks[c.leaders[at].node]
		for _, node := range c.members {
			c.asked = append(c.asked, claim{at, node, now})
		}
	case n < 130:
		if x, there := c.one(&c.asked); there && c.granters[x.node].Grant(c.leaders[x.holder].bal, c.clocks[x.node]) {
			c.granted = append(c.granted, x)
		}
	default:
		if x, there := c.one(&c.granted); there {
			c.leaders[x.holder].Granted(x.node, x.asked)
		}
	}
}

// barring is how many members bar a ballot now.
func (c *cluster) barring(b api.Bal) int {
	n := 0
	for _, node := range c.members {
		if bars(c.granters[node], b, c.clocks[node]) {
			n++
		}
	}
	return n
}

// holds looks at a leader: whether its leases are valid, and then whether a quorum bars every other ballot.
func (c *cluster) holds(t *testing.T, l leader) bool {
	if !l.Valid(c.clocks[l.node]) {
		return false
	}
	others := []api.Bal{bal(l.bal.Round, 1+l.bal.Node%9), bal(l.bal.Round+1, l.bal.Node), bal(api.MaxRound, 9)}
	for _, o := range c.leaders {
		if o.bal != l.bal {
			others = append(others, o.bal)
		}
	}
	for _, b := range others {
		if n := c.barring(b); 2*n <= len(c.members) {
			t.Fatalf("members %v, length %d, rho %d: the leases of %v are valid, but only %d bar %v", c.members, c.length, c.rho, l.bal, n, b)
		}
	}
	return true
}

func TestQuorumBars(t *testing.T) {
	rnd := rand.New(rand.NewSource(184))
	for _, rho := range []int{0, 1, 50, 100, 333, 500} {
		for _, length := range []int{3, 7, 15, 40, 1000} {
			valid, changes := 0, 0
			for range 60 {
				c := newCluster(rnd, rightSets()[rnd.Intn(len(rightSets()))], length, rho)
				last := -1
				for range 1000 {
					c.step()
					var holding []int
					for i, l := range c.leaders {
						if c.holds(t, l) {
							holding = append(holding, i)
						}
					}
					if len(holding) > 1 {
						t.Fatalf("members %v, length %d, rho %d: the leases of %d leaders are valid", c.members, length, rho, len(holding))
					}
					if len(holding) == 1 {
						valid++
						if last != holding[0] {
							changes++
						}
						last = holding[0]
					}
				}
			}
			if hold := drift.Hold(length, rho); hold > 2 && (valid < 200 || changes < 70) {
				t.Errorf("length %d, rho %d: only %d times valid, and %d changes: the test tells nothing", length, rho, valid, changes)
			}
		}
	}
}

// The promise would be broken by a tick more: a clock as slow as it may be holds, one as fast as it may be grants.
func TestAsLongAsItMay(t *testing.T) {
	for _, rho := range []int{0, 100, 200, 333, 500} {
		for _, length := range []int{10, 100, 1000, 30000} {
			g, h := NewGranter(length, 0, false), made(t, []int{1}, length, rho)
			g.Grant(bal(1, 1), 0)
			h.Granted(1, 0)
			last := 0
			for time := range 2*length + 2 {
				slow, fast := time*(1000-rho)/1000, time*(1000+rho)/1000
				if h.Valid(slow) {
					last = time
					wantBool(t, fmt.Sprintf("length %d, rho %d: valid at the time %d, and barred", length, rho, time), bars(g, bal(2, 2), fast), true)
				}
			}
			// And the holder gives little away: of what the granter waits, but for the ticks that are rounded off.
			if fast := last * (1000 + rho) / 1000; fast < length-8 {
				t.Errorf("length %d, rho %d: it holds only until the granter's clock says %d", length, rho, fast)
			}
		}
	}
}

// The chapter's examples.
func TestExamples(t *testing.T) {
	g := NewGranter(10, 0, false)
	wantBool(t, "Grant((1, 2), 5)", g.Grant(bal(1, 2), 5), true)
	wantBool(t, "Bars((2, 3), 14)", g.Bars(bal(2, 3), 14), true)
	wantBool(t, "Bars((1, 2), 14)", g.Bars(bal(1, 2), 14), false)
	wantBool(t, "Bars((2, 3), 15)", g.Bars(bal(2, 3), 15), false)
	g = NewGranter(10, 0, true)
	wantBool(t, "Grant((1, 2), 9)", g.Grant(bal(1, 2), 9), false)
	wantBool(t, "Grant((1, 2), 10)", g.Grant(bal(1, 2), 10), true)
	h := made(t, []int{1, 2, 3}, 10, 0)
	wantBool(t, "Granted(1, 4)", h.Granted(1, 4), true)
	wantBool(t, "Granted(3, 6)", h.Granted(3, 6), true)
	wantBool(t, "Valid(13)", h.Valid(13), true)
	wantBool(t, "Valid(14)", h.Valid(14), false)
}
