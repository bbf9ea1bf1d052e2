package app

import (
	"math"
	"math/rand"
	"testing"

	"synod/api"
)

const top = api.MaxPart

func reg(re, im int) api.Reg { return api.Reg{Re: re, Im: im} }

// filled is a state with another right number in each register, both bounds among them.
func filled() State {
	return State{reg(0, 0), reg(1, 2), reg(-3, 4), reg(5, -6), reg(-7, -8), reg(top, 0), reg(-top, top), reg(0, -top)}
}

// edges are integers around the bounds of registers, turns and parts, and those at the ends of what an int holds.
func edges() []int {
	return []int{math.MinInt, -top - 1, -top, -8, -1, 0, 1, 3, 4, 7, 8, 9, top, top + 1, math.MaxInt}
}

func inside(n, low, high int) bool { return low <= n && n <= high }

func isPart(n int) bool { return inside(n, -top, top) }

// isRight says what the chapter says, kind by kind.
func isRight(o api.Op) bool {
	if !inside(o.Reg, 0, 7) {
		return false
	}
	noNumber := o.Re == 0 && o.Im == 0
	number := isPart(o.Re) && isPart(o.Im)
	switch o.Kind {
	case 1:
		return o.To == 0 && noNumber
	case 2, 3, 4:
		return o.To == 0 && number
	case 5:
		return inside(o.To, 0, 3) && noNumber
	case 6:
		return inside(o.To, 0, 7) && noNumber
	case 7:
		return inside(o.To, 0, 7) && number
	}
	return false
}

// edgeOps calls f with operations of all kinds, and of some that are none, with fields around all bounds.
func edgeOps(f func(api.Op)) {
	for _, kind := range []int{math.MinInt, -1, 0, 1, 2, 3, 4, 5, 6, 7, 8, 9, math.MaxInt} {
		for _, r := range edges() {
			for _, to := range edges() {
				for _, re := range edges() {
					for _, im := range edges() {
						f(api.Op{Kind: kind, Reg: r, To: to, Re: re, Im: im})
					}
				}
			}
		}
	}
}

// P4.1

func TestValid(t *testing.T) {
	if !Valid(State{}) || !Valid(filled()) {
		t.Error("a state of right numbers is not valid")
	}
	for i := range api.Regs {
		for _, n := range edges() {
			s := filled()
			s[i] = reg(n, 0)
			if Valid(s) != isPart(n) {
				t.Errorf("register %d with %d, 0: %v", i, n, Valid(s))
			}
			s[i] = reg(0, n)
			if Valid(s) != isPart(n) {
				t.Errorf("register %d with 0, %d: %v", i, n, Valid(s))
			}
		}
	}
}

func TestCheck(t *testing.T) {
	edgeOps(func(o api.Op) {
		want := api.ErrOp
		if isRight(o) {
			want = api.OK
		}
		if got := Check(o); got != want {
			t.Errorf("Check(%+v) = %d, want %d", o, got, want)
		}
	})
}

// P4.2

func wantApply(t *testing.T, s State, o api.Op, want State, res api.Res) {
	t.Helper()
	if got, r := Apply(s, o); got != want || r != res {
		t.Errorf("Apply(%v, %+v)\n got %v, %+v\nwant %v, %+v", s, o, got, r, want, res)
	}
}

// wantChange is for operations that change the register Reg alone: it becomes r, and r is the result.
func wantChange(t *testing.T, s State, o api.Op, r api.Reg) {
	t.Helper()
	want := s
	want[o.Reg] = r
	wantApply(t, s, o, want, api.Res{Kind: api.Value, Re: r.Re, Im: r.Im})
}

func TestWrongOperationsDoNothing(t *testing.T) {
	s := filled()
	edgeOps(func(o api.Op) {
		got, r := Apply(s, o)
		if !isRight(o) && (got != s || r != api.Res{}) {
			t.Errorf("Apply of %+v: %v, %+v", o, got, r)
		}
		if isRight(o) && r.Kind == api.NoRes {
			t.Errorf("Apply of %+v has no result", o)
		}
	})
}

func TestNothingIsDoneToAnInvalidState(t *testing.T) {
	for i := range api.Regs {
		for _, wrong := range []api.Reg{reg(top+1, 0), reg(0, top+1), reg(-top-1, 0), reg(0, -top-1), reg(math.MinInt, math.MaxInt)} {
			s := filled()
			s[i] = wrong
			for kind := api.Get; kind <= api.Take; kind++ {
				wantApply(t, s, api.Op{Kind: kind}, s, api.Res{})
				wantApply(t, s, api.Op{Kind: kind, Reg: 7}, s, api.Res{})
			}
		}
	}
}

func TestGet(t *testing.T) {
	for i, r := range filled() {
		wantChange(t, filled(), api.Op{Kind: api.Get, Reg: i}, r)
	}
}

func TestPut(t *testing.T) {
	for i := range api.Regs {
		for _, r := range filled() {
			wantChange(t, filled(), api.Op{Kind: api.Put, Reg: i, Re: r.Re, Im: r.Im}, r)
		}
	}
}

func TestAddAndMul(t *testing.T) {
	for i, r := range filled() {
		for _, n := range filled() {
			sum := reg(r.Re+n.Re, r.Im+n.Im)
			product := reg(r.Re*n.Re-r.Im*n.Im, r.Re*n.Im+r.Im*n.Re)
			wantReckoned(t, api.Op{Kind: api.Add, Reg: i, Re: n.Re, Im: n.Im}, sum)
			wantReckoned(t, api.Op{Kind: api.Mul, Reg: i, Re: n.Re, Im: n.Im}, product)
		}
	}
}

// wantReckoned is as wantChange, but Over, if r is not right.
func wantReckoned(t *testing.T, o api.Op, r api.Reg) {
	t.Helper()
	if isPart(r.Re) && isPart(r.Im) {
		wantChange(t, filled(), o, r)
		return
	}
	wantApply(t, filled(), o, filled(), api.Res{Kind: api.Over})
}

func TestOverAtTheBounds(t *testing.T) {
	s := State{reg(top, 0), reg(0, top), reg(-top, 0), reg(0, -top), reg(1024, 0)}
	over := []api.Op{
		{Kind: api.Add, Reg: 0, Re: 1}, {Kind: api.Add, Reg: 1, Im: 1}, {Kind: api.Add, Reg: 2, Re: -1}, {Kind: api.Add, Reg: 3, Im: -1},
		{Kind: api.Mul, Reg: 0, Re: 2}, {Kind: api.Mul, Reg: 1, Im: -2}, {Kind: api.Mul, Reg: 4, Re: 1025}, {Kind: api.Mul, Reg: 0, Re: top, Im: top},
	}
	for _, o := range over {
		wantApply(t, s, o, s, api.Res{Kind: api.Over})
	}
	wantChange(t, s, api.Op{Kind: api.Add, Reg: 0, Re: -1}, reg(top-1, 0))
	wantChange(t, s, api.Op{Kind: api.Add, Reg: 0, Im: top}, reg(top, top))
	wantChange(t, s, api.Op{Kind: api.Mul, Reg: 4, Re: 1024}, reg(top, 0))
	wantChange(t, s, api.Op{Kind: api.Mul, Reg: 4, Im: -1024}, reg(0, -top))
}

func TestTurn(t *testing.T) {
	for i, r := range filled() {
		for quarters, want := range []api.Reg{r, reg(-r.Im, r.Re), reg(-r.Re, -r.Im), reg(r.Im, -r.Re)} {
			wantChange(t, filled(), api.Op{Kind: api.Turn, Reg: i, To: quarters}, want)
		}
	}
}

func TestSwap(t *testing.T) {
	for a, first := range filled() {
		for b, second := range filled() {
			want := filled()
			want[a], want[b] = second, first
			wantApply(t, filled(), api.Op{Kind: api.Swap, Reg: a, To: b}, want, api.Res{Kind: api.Value, Re: second.Re, Im: second.Im})
		}
	}
}

func TestTake(t *testing.T) {
	for a, held := range filled() {
		for b, other := range filled() {
			wantChange(t, filled(), api.Op{Kind: api.Take, Reg: a, To: b, Re: held.Re, Im: held.Im}, other)
		}
	}
}

func TestTakeMisses(t *testing.T) {
	for a, held := range filled() {
		for b, other := range filled() {
			for _, n := range []api.Reg{reg(held.Im, held.Re), reg(-held.Re, held.Im), reg(held.Re, -held.Im), other, reg(9, held.Im), reg(held.Re, 9)} {
				if n == held {
					continue
				}
				o := api.Op{Kind: api.Take, Reg: a, To: b, Re: n.Re, Im: n.Im}
				wantApply(t, filled(), o, filled(), api.Res{Kind: api.Missed, Re: held.Re, Im: held.Im})
			}
		}
	}
}

// P4.3

func TestAValidStateStaysValid(t *testing.T) {
	source := rand.New(rand.NewSource(4))
	parts := []int{-top, -top + 1, -1025, -1024, -2, -1, 0, 1, 2, 1024, 1025, top - 1, top}
	part := func() int { return parts[source.Intn(len(parts))] }
	var s State
	met := map[int]int{}
	for range 100000 {
		o := api.Op{Kind: api.Get + source.Intn(api.Take), Reg: source.Intn(api.Regs)}
		switch o.Kind {
		case api.Put, api.Add, api.Mul:
			o.Re, o.Im = part(), part()
		case api.Turn:
			o.To = source.Intn(4)
		case api.Swap:
			o.To = source.Intn(api.Regs)
		case api.Take:
			o.To, o.Re, o.Im = source.Intn(api.Regs), s[o.Reg].Re, s[o.Reg].Im
			if source.Intn(2) == 0 {
				o.Re = part()
			}
		}
		var r api.Res
		s, r = Apply(s, o)
		met[r.Kind]++
		if !Valid(s) {
			t.Fatalf("%+v has made %v", o, s)
		}
	}
	if met[api.NoRes] != 0 || met[api.Value] == 0 || met[api.Over] == 0 || met[api.Missed] == 0 || len(met) != 3 {
		t.Errorf("results met: %v", met)
	}
}

func TestReads(t *testing.T) {
	for _, kind := range append(edges(), 2, 5, 6) {
		for _, o := range []api.Op{{Kind: kind}, {Kind: kind, Reg: 9, To: 3, Re: top + 1, Im: -1}} {
			if Reads(o) != (kind == 1) {
				t.Errorf("Reads(%+v) = %v", o, Reads(o))
			}
		}
	}
}

// The examples of the chapter.

func TestExamples(t *testing.T) {
	var s State
	for _, step := range []struct {
		o api.Op
		r api.Res
	}{
		{api.Op{Kind: api.Put, Reg: 2, Re: 3, Im: 4}, api.Res{Kind: api.Value, Re: 3, Im: 4}},
		{api.Op{Kind: api.Turn, Reg: 2, To: 1}, api.Res{Kind: api.Value, Re: -4, Im: 3}},
		{api.Op{Kind: api.Mul, Reg: 2, Im: 1}, api.Res{Kind: api.Value, Re: -3, Im: -4}},
		{api.Op{Kind: api.Take, Reg: 2, To: 5, Re: -3, Im: -4}, api.Res{Kind: api.Value}},
		{api.Op{Kind: api.Take, Reg: 2, To: 5, Re: 1}, api.Res{Kind: api.Missed}},
		{api.Op{Kind: api.Put, Re: 1048576}, api.Res{Kind: api.Value, Re: 1048576}},
		{api.Op{Kind: api.Add, Re: 1}, api.Res{Kind: api.Over}},
	} {
		var r api.Res
		if s, r = Apply(s, step.o); r != step.r {
			t.Errorf("%+v: %+v, want %+v", step.o, r, step.r)
		}
	}
}
