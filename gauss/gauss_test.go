package gauss

import (
	"fmt"
	"math"
	"math/big"
	"regexp"
	"strings"
	"testing"

	"synod/api"
)

const top = api.MaxPart

// edgeParts are parts around 0 and around both bounds, those just beyond them among them.
func edgeParts() []int {
	return []int{-top - 1, -top, -top + 1, -1025, -1024, -3, -2, -1, 0, 1, 2, 3, 1023, 1024, 1025, top - 1, top, top + 1}
}

type pair struct{ re, im int }

func (p pair) right() bool {
	return -top <= p.re && p.re <= top && -top <= p.im && p.im <= top
}

func (p pair) number() complex128 { return complex(float64(p.re), float64(p.im)) }

// edgePairs are all pairs of edge parts, right ones and others.
func edgePairs() []pair {
	var out []pair
	for _, re := range edgeParts() {
		for _, im := range edgeParts() {
			out = append(out, pair{re, im})
		}
	}
	return out
}

// wrongNumbers are no right ones: out of bounds, not whole, infinite, no numbers; the wrong part is the first, the second, or both.
func wrongNumbers() []complex128 {
	parts := []float64{
		top + 1, -top - 1, top + 0.5, -top - 0.5, 0.5, -0.5, 1 << 40, 1 << 62, 1 << 63, -(1 << 63), 1 << 64, 1e300, -1e300,
		math.Nextafter(top, math.Inf(1)), math.Nextafter(-top, math.Inf(-1)), math.Nextafter(1, 0), math.Nextafter(1, 2),
		math.SmallestNonzeroFloat64, -math.SmallestNonzeroFloat64, math.MaxFloat64, math.Inf(1), math.Inf(-1), math.NaN(),
	}
	var out []complex128
	for _, x := range parts {
		out = append(out, complex(x, 0), complex(0, x), complex(x, 3), complex(-4, x), complex(x, x))
	}
	return out
}

func minusZero() float64 { return math.Copysign(0, -1) }

// sameBits tells whether two numbers are one, 0 and -0 held apart.
func sameBits(a, b complex128) bool {
	return math.Float64bits(real(a)) == math.Float64bits(real(b)) && math.Float64bits(imag(a)) == math.Float64bits(imag(b))
}

// wantNumber is what a call is to answer: the number of the parts, if all is right, else 0 and false.
func wantNumber(t *testing.T, call string, got complex128, ok bool, want pair, right bool) {
	t.Helper()
	right = right && want.right()
	if !right {
		want = pair{}
	}
	if ok != right || !sameBits(got, want.number()) {
		t.Errorf("%s = %v, %v, want %v, %v", call, got, ok, want.number(), right)
	}
}

// P3.1

func TestOf(t *testing.T) {
	for _, p := range edgePairs() {
		z, ok := Of(p.re, p.im)
		wantNumber(t, fmt.Sprint("Of", p), z, ok, p, true)
	}
	for _, far := range []int{math.MaxInt, math.MinInt, 1 << 40, -1 << 40, 1 << 53, 1<<32 + 1} {
		for _, p := range []pair{{far, 0}, {0, far}, {far, far}} {
			z, ok := Of(p.re, p.im)
			wantNumber(t, fmt.Sprint("Of", p), z, ok, p, true)
		}
	}
}

func TestParts(t *testing.T) {
	for _, p := range edgePairs() {
		want := p
		if !p.right() {
			want = pair{}
		}
		if re, im, ok := Parts(p.number()); (pair{re, im}) != want || ok != p.right() {
			t.Errorf("Parts(%v) = %d, %d, %v", p.number(), re, im, ok)
		}
	}
	for _, z := range wrongNumbers() {
		if re, im, ok := Parts(z); re != 0 || im != 0 || ok {
			t.Errorf("Parts(%v) = %d, %d, %v", z, re, im, ok)
		}
	}
}

func TestMinusZeroIsZero(t *testing.T) {
	z := complex(minusZero(), minusZero())
	if re, im, ok := Parts(z); re != 0 || im != 0 || !ok {
		t.Errorf("Parts(-0-0i) = %d, %d, %v", re, im, ok)
	}
	if s, ok := Show(z); s != "0+0i" || !ok {
		t.Errorf("Show(-0-0i) = %q, %v", s, ok)
	}
	for quarters := range 4 {
		got, ok := Turn(z, quarters)
		wantNumber(t, "Turn(-0-0i)", got, ok, pair{}, true)
	}
	conj, ok := Conj(z)
	wantNumber(t, "Conj(-0-0i)", conj, ok, pair{}, true)
	sum, ok := Add(z, z)
	wantNumber(t, "Add(-0-0i, -0-0i)", sum, ok, pair{}, true)
	diff, ok := Sub(z, 0)
	wantNumber(t, "Sub(-0-0i, 0)", diff, ok, pair{}, true)
	product, ok := Mul(z, 3+4i)
	wantNumber(t, "Mul(-0-0i, 3+4i)", product, ok, pair{}, true)
	if n, ok := Norm(z); n != 0 || !ok {
		t.Errorf("Norm(-0-0i) = %d, %v", n, ok)
	}
}

// P3.2

func TestSumsAndProducts(t *testing.T) {
	for _, a := range edgePairs() {
		for _, b := range edgePairs() {
			right := a.right() && b.right()
			name := fmt.Sprint(a, b)
			z, ok := Add(a.number(), b.number())
			wantNumber(t, "Add"+name, z, ok, pair{a.re + b.re, a.im + b.im}, right)
			z, ok = Sub(a.number(), b.number())
			wantNumber(t, "Sub"+name, z, ok, pair{a.re - b.re, a.im - b.im}, right)
			z, ok = Mul(a.number(), b.number())
			wantNumber(t, "Mul"+name, z, ok, pair{a.re*b.re - a.im*b.im, a.re*b.im + a.im*b.re}, right)
		}
	}
}

// The products of the middle are near the bounds, and the two halves of a part may cancel each other.
func TestProductsNearTheBounds(t *testing.T) {
	parts := []int{-top, -724078, -1449, -1448, -725, -724, -1, 0, 1, 724, 725, 1448, 1449, 724078, top}
	for _, a := range parts {
		for _, b := range parts {
			for _, c := range parts {
				for _, d := range parts {
					z, ok := Mul(pair{a, b}.number(), pair{c, d}.number())
					wantNumber(t, fmt.Sprint("Mul", a, b, c, d), z, ok, pair{a*c - b*d, a*d + b*c}, true)
				}
			}
		}
	}
}

func TestConj(t *testing.T) {
	for _, p := range edgePairs() {
		z, ok := Conj(p.number())
		wantNumber(t, fmt.Sprint("Conj", p), z, ok, pair{p.re, -p.im}, p.right())
	}
}

func TestTurn(t *testing.T) {
	for _, p := range edgePairs() {
		turned := [4]pair{p, {-p.im, p.re}, {-p.re, -p.im}, {p.im, -p.re}}
		for quarters := -9; quarters <= 9; quarters++ {
			z, ok := Turn(p.number(), quarters)
			wantNumber(t, fmt.Sprint("Turn", p, quarters), z, ok, turned[(quarters+12)%4], p.right())
		}
	}
}

func TestTurnByAnyInteger(t *testing.T) {
	for quarters, want := range map[int]pair{
		math.MinInt: {3, 4}, math.MinInt + 1: {-4, 3}, math.MinInt + 2: {-3, -4}, math.MinInt + 3: {4, -3},
		math.MaxInt: {4, -3}, math.MaxInt - 1: {-3, -4}, math.MaxInt - 2: {-4, 3}, math.MaxInt - 3: {3, 4},
	} {
		z, ok := Turn(3+4i, quarters)
		wantNumber(t, fmt.Sprint("Turn by ", quarters), z, ok, want, true)
	}
}

func TestNorm(t *testing.T) {
	for _, p := range edgePairs() {
		want := p.re*p.re + p.im*p.im
		if !p.right() {
			want = 0
		}
		if n, ok := Norm(p.number()); n != want || ok != p.right() {
			t.Errorf("Norm(%v) = %d, %v, want %d", p, n, ok, want)
		}
	}
}

func TestWrongNumbersAreNotReckonedWith(t *testing.T) {
	for _, z := range wrongNumbers() {
		for _, w := range []complex128{0, 1, 2, 1i, -3 - 4i, top, -top, z, -z} {
			for name, call := range map[string]func(a, b complex128) (complex128, bool){"Add": Add, "Sub": Sub, "Mul": Mul} {
				if got, ok := call(z, w); got != 0 || ok {
					t.Errorf("%s(%v, %v) = %v, %v", name, z, w, got, ok)
				}
				if got, ok := call(w, z); got != 0 || ok {
					t.Errorf("%s(%v, %v) = %v, %v", name, w, z, got, ok)
				}
			}
		}
		for quarters := range 4 {
			if got, ok := Turn(z, quarters); got != 0 || ok {
				t.Errorf("Turn(%v, %d) = %v, %v", z, quarters, got, ok)
			}
		}
		if got, ok := Conj(z); got != 0 || ok {
			t.Errorf("Conj(%v) = %v, %v", z, got, ok)
		}
		if n, ok := Norm(z); n != 0 || ok {
			t.Errorf("Norm(%v) = %d, %v", z, n, ok)
		}
		if s, ok := Show(z); s != "" || ok {
			t.Errorf("Show(%v) = %q, %v", z, s, ok)
		}
	}
}

// P3.3

func TestShow(t *testing.T) {
	for s, z := range map[string]complex128{
		"0+0i": 0, "3+4i": 3 + 4i, "-4+3i": -4 + 3i, "4-3i": 4 - 3i, "-4-3i": -4 - 3i, "0-1i": -1i, "-1+0i": -1, "10+100i": 10 + 100i,
		"1048576+1048576i": top + top*1i, "-1048576-1048576i": -top - top*1i,
	} {
		if got, ok := Show(z); got != s || !ok {
			t.Errorf("Show(%v) = %q, %v, want %q", z, got, ok, s)
		}
	}
}

func wantRead(t *testing.T, s string, want complex128, err api.Errno) {
	t.Helper()
	if got, e := Read(s); !sameBits(got, want) || e != err {
		t.Errorf("Read(%q) = %v, %d, want %v, %d", s, got, e, want, err)
	}
}

func TestReadRightTexts(t *testing.T) {
	for s, z := range map[string]complex128{
		"0+0i": 0, "3+4i": 3 + 4i, "-4+3i": -4 + 3i, "4-3i": 4 - 3i, "-4-3i": -4 - 3i, "0-1i": -1i, "-1+0i": -1,
		"1048576+0i": top, "-1048576-1048576i": -top - top*1i, "0+1048576i": top * 1i,
	} {
		wantRead(t, s, z, api.OK)
	}
}

func TestReadWideParts(t *testing.T) {
	for _, s := range []string{
		"3+2000000i", "2000000+3i", "1048577+0i", "-1048577+0i", "0+1048577i", "0-1048577i", "2000000-2000000i",
		"9223372036854775807+0i", "-9223372036854775808+0i", "0+9223372036854775807i", "0-9223372036854775808i",
		"-9223372036854775808-9223372036854775808i",
		"02000000+0i", "-02000000+0i", "03+2000000i", "2000000+04i", "0+02000000i", "00-0002000000i",
		"-0+2000000i", "2000000-0i", "-00+2000000i", "2000000-00i",
	} {
		wantRead(t, s, 0, api.ErrWide)
	}
}

func TestReadNoTexts(t *testing.T) {
	for _, s := range []string{
		"", "i", "3", "3i", "+", "-", "+i", "-i", "--", "+-i", "3+", "3+i", "3-i", "3+4", "3+4j", "3+4I", "3+4ii", "3+4i ", " 3+4i", "3 + 4i", "3+ 4i", "3 +4i",
		"+3+4i", "+3i", "-3i", "--3+4i", "3--4i", "3+-4i", "3-+4i", "3++4i", "3+4-5i", "3+4+5i", "3+4i+5i", "3i+4i", "i3+4", "3+4i\n", "3+4i\x00",
		"3+04i", "03+4i", "00+4i", "3+00i", "-03+4i", "3-04i", "-0+4i", "0-0i", "-0-0i", "3-0i", "-0+0i",
		"1_0+0i", "1_000_000_0+0i", "0x10+0i", "1e3+0i", "3.0+4i", "3+4.0i", "2000000.0+0i", "inf+0i", "NaN+0i", "(3+4i)", "３+4i", "\xff+4i",
		"+2000000+0i", "2000000", "2000000+", "2000000+i", "2000000i", "2000000+3", "2000000+33", "2000000+3j", "2000000+3i0", "2000000+3i ", "2000000+x3i", "2000000++3i", "2000000 +3i", "-+2000000i", "+2000000i",
		"9223372036854775808+0i", "-9223372036854775809+0i", "0+9223372036854775808i", "0-9223372036854775809i",
		"2000000+9223372036854775808i", "9223372036854775808+2000000i", "99999999999999999999999+0i", "0+18446744073709551617i",
	} {
		wantRead(t, s, 0, api.ErrWord)
	}
}

func TestReadLength(t *testing.T) {
	noughts := func(bytes int, rest string) string { return strings.Repeat("0", bytes-len(rest)) + rest }
	wantRead(t, noughts(48, "2000000+0i"), 0, api.ErrWide)
	wantRead(t, noughts(49, "2000000+0i"), 0, api.ErrWord)
	wantRead(t, noughts(48, "3+4i"), 0, api.ErrWord)
	wantRead(t, noughts(49, "3+4i"), 0, api.ErrWord)
	wantRead(t, noughts(1<<20, "2000000+0i"), 0, api.ErrWord)
	wantRead(t, "0+"+noughts(46, "2000000i"), 0, api.ErrWide)
	wantRead(t, "0+"+noughts(47, "2000000i"), 0, api.ErrWord)
	wantRead(t, strings.Repeat("9", 1<<20)+"+0i", 0, api.ErrWord)
}

// P3.4

func TestShownIsReadAgain(t *testing.T) {
	for _, p := range edgePairs() {
		if !p.right() {
			continue
		}
		s, ok := Show(p.number())
		if !ok {
			t.Errorf("Show(%v) is false", p)
		}
		wantRead(t, s, p.number(), api.OK)
	}
}

// TestReadEveryShortText holds all texts of up to six of the bytes that may stand in a number against what the document says.
func TestReadEveryShortText(t *testing.T) {
	texts := []string{""}
	for range 6 {
		var longer []string
		for _, s := range texts {
			checkRead(t, s)
			for _, c := range "013+-i " {
				longer = append(longer, s+string(c))
			}
		}
		texts = longer
	}
	for _, s := range texts {
		checkRead(t, s)
	}
}

// FuzzRead holds any text against what the document says.
func FuzzRead(f *testing.F) {
	for _, s := range []string{"0+0i", "-3-4i", "3+04i", "3+2000000i", "-9223372036854775808-9223372036854775808i", "9223372036854775808+0i", "i", "+3+4i"} {
		f.Add(s)
	}
	f.Fuzz(checkRead)
}

// checkRead works out by other means what Read is to answer.
func checkRead(t *testing.T, s string) {
	t.Helper()
	z, e := Read(s)
	re, im, want := readSlowly(s)
	if want != api.OK {
		re, im = 0, 0
	}
	if e != want || !sameBits(z, pair{re, im}.number()) {
		t.Errorf("Read(%q) = %v, %d, want %d, %d, %d", s, z, e, re, im, want)
	}
	if shown, ok := Show(z); e == api.OK && (shown != s || !ok) {
		t.Errorf("Read(%q) is shown as %q", s, shown)
	}
}

var (
	form    = regexp.MustCompile(`\A(-?[0-9]+)([+-][0-9]+)i\z`)
	oneForm = regexp.MustCompile(`\A(0|-?[1-9][0-9]*)(\+0|[+-][1-9][0-9]*)i\z`)
)

func readSlowly(s string) (int, int, api.Errno) {
	halves := form.FindStringSubmatch(s)
	if halves == nil || len(s) > 48 {
		return 0, 0, api.ErrWord
	}
	re, _ := new(big.Int).SetString(halves[1], 10)
	im, _ := new(big.Int).SetString(halves[2], 10)
	if !re.IsInt64() || !im.IsInt64() {
		return 0, 0, api.ErrWord
	}
	p := pair{int(re.Int64()), int(im.Int64())}
	if !p.right() {
		return 0, 0, api.ErrWide
	}
	if !oneForm.MatchString(s) {
		return 0, 0, api.ErrWord
	}
	return p.re, p.im, api.OK
}

// The examples of the chapter.

func TestExamples(t *testing.T) {
	z, _ := Of(3, 4)
	if n, ok := Norm(z); n != 25 || !ok {
		t.Errorf("Norm(3+4i) = %d, %v", n, ok)
	}
	unit, _ := Of(0, 1)
	w, ok := Mul(z, unit)
	wantNumber(t, "Mul(3+4i, i)", w, ok, pair{-4, 3}, true)
	if s, ok := Show(w); s != "-4+3i" || !ok {
		t.Errorf("Show(-4+3i) = %q, %v", s, ok)
	}
	w, ok = Turn(z, -1)
	wantNumber(t, "Turn(3+4i, -1)", w, ok, pair{4, -3}, true)
	w, ok = Mul(1<<20, 2)
	wantNumber(t, "Mul(2^20, 2)", w, ok, pair{1 << 21, 0}, true)
}
