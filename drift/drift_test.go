package drift

import (
	"math"
	"math/big"
	"math/rand"
	"testing"

	"synod/api"
)

// edges is numbers at and around every bound of the layer.
func edges() []int {
	return []int{
		math.MinInt, math.MinInt + 1, -api.MaxSlot, -1000, -2, -1, 0, 1, 2, 3, 7, 499, 500, 501, 999, 1000, 1001,
		api.MaxLease - 1, api.MaxLease, api.MaxLease + 1,
		api.MaxSlot - 1, api.MaxSlot, api.MaxSlot + 1, math.MaxInt / 1000, math.MaxInt - 1, math.MaxInt,
	}
}

// inBounds tells whether a lease of so many ticks with such a drift is one, by the document's numbers.
func inBounds(ticks, rho int) bool {
	return ticks >= 0 && ticks <= 1<<20 && rho >= 0 && rho <= 500
}

// wantHold is what Hold is asked to be, by exact fractions.
func wantHold(ticks, rho int) int {
	if !inBounds(ticks, rho) {
		return 0
	}
	up := new(big.Int).Mul(big.NewInt(int64(ticks)), big.NewInt(int64(1000-rho)))
	return int(up.Div(up, big.NewInt(int64(1000+rho))).Int64())
}

// wantWait is what Wait is asked to be, by exact fractions.
func wantWait(ticks, rho int) int {
	if !inBounds(ticks, rho) {
		return 0
	}
	up := new(big.Int).Mul(big.NewInt(int64(ticks)), big.NewInt(int64(1000+rho)))
	whole, rest := up.DivMod(up, big.NewInt(int64(1000-rho)), new(big.Int))
	if rest.Sign() > 0 {
		return int(whole.Int64()) + 1
	}
	return int(whole.Int64())
}

// wantKeeps is what Keeps is asked to be, by exact fractions.
func wantKeeps(time, ticks, rho int) bool {
	if rho < 0 || rho > 500 || time < 0 || time > 1<<40 || ticks < 0 || ticks > 1<<40 {
		return false
	}
	t, gone := big.NewRat(int64(time), 1), big.NewRat(int64(ticks), 1)
	least := new(big.Rat).Mul(t, big.NewRat(int64(1000-rho), 1000))
	most := new(big.Rat).Mul(t, big.NewRat(int64(1000+rho), 1000))
	return gone.Cmp(least) >= 0 && gone.Cmp(most) <= 0
}

func checkHoldWait(t *testing.T, ticks, rho int) {
	t.Helper()
	if got, want := Hold(ticks, rho), wantHold(ticks, rho); got != want {
		t.Errorf("Hold(%d, %d) = %d, want %d", ticks, rho, got, want)
	}
	if got, want := Wait(ticks, rho), wantWait(ticks, rho); got != want {
		t.Errorf("Wait(%d, %d) = %d, want %d", ticks, rho, got, want)
	}
}

func checkKeeps(t *testing.T, time, ticks, rho int) {
	t.Helper()
	if got, want := Keeps(time, ticks, rho), wantKeeps(time, ticks, rho); got != want {
		t.Errorf("Keeps(%d, %d, %d) = %v, want %v", time, ticks, rho, got, want)
	}
}

// P11.1: Hold and Wait.

func TestHoldWait(t *testing.T) {
	for _, x := range []struct{ ticks, rho, hold, wait int }{
		{0, 0, 0, 0},
		{0, 500, 0, 0},
		{1, 0, 1, 1},
		{1, 1, 0, 2},
		{1, 500, 0, 3},
		{2, 500, 0, 6},
		{3, 500, 1, 9},
		{5, 200, 3, 8},
		{10, 200, 6, 15},
		{1000, 100, 818, 1223},
		{1 << 20, 0, 1 << 20, 1 << 20},
		{1 << 20, 500, 349525, 3145728},
		{1 << 20, 1, 1046480, 1050676},
	} {
		if got := Hold(x.ticks, x.rho); got != x.hold {
			t.Errorf("Hold(%d, %d) = %d, want %d", x.ticks, x.rho, got, x.hold)
		}
		if got := Wait(x.ticks, x.rho); got != x.wait {
			t.Errorf("Wait(%d, %d) = %d, want %d", x.ticks, x.rho, got, x.wait)
		}
	}
}

func TestHoldWaitRefused(t *testing.T) {
	for _, x := range [][2]int{
		{-1, 0}, {math.MinInt, 0}, {1<<20 + 1, 0}, {math.MaxInt, 0},
		{1000, -1}, {1000, math.MinInt}, {1000, 501}, {1000, 1000}, {1000, -1000}, {1000, math.MaxInt},
		{-1, -1}, {1<<20 + 1, 501},
	} {
		if h, w := Hold(x[0], x[1]), Wait(x[0], x[1]); h != 0 || w != 0 {
			t.Errorf("Hold, Wait(%d, %d) = %d, %d, want 0", x[0], x[1], h, w)
		}
	}
}

func TestHoldWaitEverywhere(t *testing.T) {
	for _, ticks := range edges() {
		for _, rho := range edges() {
			checkHoldWait(t, ticks, rho)
		}
	}
	for ticks := range 40 {
		for rho := range api.MaxRho + 1 {
			checkHoldWait(t, ticks, rho)
		}
	}
	r := rand.New(rand.NewSource(11))
	for range 20000 {
		checkHoldWait(t, r.Intn(api.MaxLease+1), r.Intn(api.MaxRho+1))
	}
}

// P11.2: Keeps.

func TestKeeps(t *testing.T) {
	for _, x := range []struct {
		time, ticks, rho int
		want             bool
	}{
		{0, 0, 0, true},
		{0, 0, 500, true},
		{0, 1, 500, false},
		{1, 0, 500, false},
		{1, 1, 0, true},
		{2, 1, 500, true},
		{2, 1, 499, false},
		{2, 3, 500, true},
		{2, 3, 499, false},
		{10, 9, 100, true},
		{10, 11, 100, true},
		{10, 8, 100, false},
		{10, 12, 100, false},
		{10, 9, 99, false},
		{10, 11, 99, false},
		{1000, 999, 1, true},
		{1000, 1001, 1, true},
		{1000, 998, 1, false},
		{1000, 1002, 1, false},
		{1 << 40, 1 << 40, 0, true},
		{1 << 40, 1<<40 - 1, 0, false},
		{1 << 40, 1 << 39, 500, true},
		{1 << 40, 1<<39 - 1, 500, false},
	} {
		if got := Keeps(x.time, x.ticks, x.rho); got != x.want {
			t.Errorf("Keeps(%d, %d, %d) = %v, want %v", x.time, x.ticks, x.rho, got, x.want)
		}
	}
}

func TestKeepsRefused(t *testing.T) {
	for _, x := range [][3]int{
		{10, 10, -1}, {10, 10, 501}, {10, 10, math.MaxInt}, {10, 10, math.MinInt},
		{-1, -1, 0}, {-1, 0, 0}, {0, -1, 0}, {-10, -10, 500},
		{1<<40 + 1, 1<<40 + 1, 0}, {1<<40 + 1, 1 << 40, 500}, {1 << 40, 1<<40 + 1, 500},
		{math.MaxInt, math.MaxInt, 0}, {math.MinInt, math.MinInt, 0},
	} {
		if Keeps(x[0], x[1], x[2]) {
			t.Errorf("Keeps(%d, %d, %d)", x[0], x[1], x[2])
		}
	}
}

func TestKeepsEverywhere(t *testing.T) {
	for _, time := range edges() {
		for _, ticks := range edges() {
			for _, rho := range edges() {
				checkKeeps(t, time, ticks, rho)
			}
		}
	}
	r := rand.New(rand.NewSource(12))
	for range 20000 {
		time, rho := r.Intn(1<<r.Intn(41))+1, r.Intn(api.MaxRho+1)
		// Near the two ends of what is within the drift.
		for _, end := range []int{time * (1000 - rho) / 1000, time * (1000 + rho) / 1000} {
			checkKeeps(t, time, end+r.Intn(5)-2, rho)
		}
	}
}

// P11.3: what Hold and Wait say of two clocks that keep within the drift.

// pairs calls f with all pairs of ticks that two clocks may go in one stretch of whole time.
func pairs(rho, most int, f func(one, other int)) {
	for time := range most {
		var within []int
		for ticks := range 2*most + 1 {
			if Keeps(time, ticks, rho) {
				within = append(within, ticks)
			}
		}
		for _, one := range within {
			for _, other := range within {
				f(one, other)
			}
		}
	}
}

func TestTwoClocks(t *testing.T) {
	for _, rho := range []int{0, 1, 10, 100, 200, 250, 333, 400, 499, 500} {
		pairs(rho, 60, func(one, other int) {
			for n := range 40 {
				if one <= Hold(n, rho) && other > n {
					t.Errorf("rho %d: one goes %d, within Hold(%d), the other one %d", rho, one, n, other)
				}
				if one >= Wait(n, rho) && other < n {
					t.Errorf("rho %d: one goes %d, not below Wait(%d), the other one %d", rho, one, n, other)
				}
			}
		})
	}
}

// TestNoBetterBound: a Hold one higher and a Wait one lower would break the promise for clocks at the ends of the drift.
func TestNoBetterBound(t *testing.T) {
	for _, rho := range []int{0, 1, 100, 333, 500} {
		for n := 1; n < 200; n++ {
			// While the slow clock goes h + 1 ticks, the fast one goes (h + 1)(1000 + rho)/(1000 - rho).
			if h := Hold(n, rho); (h+1)*(1000+rho) <= n*(1000-rho) {
				t.Errorf("Hold(%d, %d) = %d is too low", n, rho, h)
			}
			// While the fast clock goes w - 1 ticks, the slow one goes (w - 1)(1000 - rho)/(1000 + rho).
			if w := Wait(n, rho); (w-1)*(1000-rho) >= n*(1000+rho) {
				t.Errorf("Wait(%d, %d) = %d is too high", n, rho, w)
			}
		}
	}
}

func TestExamples(t *testing.T) {
	if h, w, s := Hold(1000, 100), Wait(1000, 100), Hold(7, 0); h != 818 || w != 1223 || s != 7 {
		t.Errorf("Hold, Wait, Hold = %d, %d, %d", h, w, s)
	}
	if !Keeps(10, 9, 100) || Keeps(10, 12, 100) {
		t.Error("Keeps")
	}
}
