package tests

import (
	"math"
	"math/big"
	"testing"

	"loop.example/g00321/impl"
)

// wordedField is a number modulo FieldP, worked out by numbers of any size.
func wordedField(n *big.Int) int {
	return int(new(big.Int).Mod(n, big.NewInt(12107)).Int64())
}

func wordedFieldOf(n int) int {
	return wordedField(big.NewInt(int64(n)))
}

// fieldEdges are 0, 1, FieldP and the numbers about it, ends of an int, what lies near them, and the negatives.
func fieldEdges() []int {
	list := []int{math.MinInt, math.MinInt + 1, math.MinInt + 12107, math.MaxInt - 12107}
	for _, n := range []int{
		0, 1, 2, 3, 4, 6053, 6054, 12105, 12106, 12107, 12108, 24213, 24214, 24215, 146579449, 146579448,
		1 << 31, 1<<31 - 1, 1 << 32, 3037000499, 3037000500, 1 << 62, math.MaxInt - 1, math.MaxInt,
	} {
		list = append(list, n, -n)
	}
	return list
}

// manyFieldNumbers are the edges and numbers scattered over the whole of an int.
func manyFieldNumbers() []int {
	list := fieldEdges()
	for n := uint64(5); len(list) < 300; n = n*6364136223846793005 + 1442695040888963407 {
		list = append(list, int(n), int(n>>40))
	}
	return list
}

// leastRoots holds for each number of the field the least whose square it is, or -1.
func leastRoots() []int {
	list := make([]int, 12107)
	for a := range list {
		list[a] = -1
	}
	for r := 12106; r >= 0; r-- {
		list[r*r%12107] = r
	}
	return list
}

func TestFieldSize(t *testing.T) {
	if impl.FieldP != 12107 {
		t.Errorf("FieldP = %d, want 12107", impl.FieldP)
	}
	for d := 2; d*d <= impl.FieldP; d++ {
		if impl.FieldP%d == 0 {
			t.Errorf("FieldP is divided by %d", d)
		}
	}
}

func TestFpOk(t *testing.T) {
	for a := range 12107 {
		if !impl.FpOk(a) {
			t.Errorf("FpOk(%d) = false", a)
		}
	}
	for _, a := range []int{-1, -2, -12106, -12107, -12108, 12107, 12108, 24213, 24214, math.MinInt, math.MinInt + 1, math.MaxInt - 1, math.MaxInt, 1 << 32, 1<<32 + 5, -1 << 32, 1 << 16} {
		if impl.FpOk(a) {
			t.Errorf("FpOk(%d) = true", a)
		}
	}
}

func TestFpOf(t *testing.T) {
	for a := range 12107 {
		for _, n := range []int{a, a + 12107, a - 12107, a + 1000*12107, a - 1000*12107} {
			if got := impl.FpOf(n); got != a {
				t.Errorf("FpOf(%d) = %d, want %d", n, got, a)
			}
		}
	}
	for _, n := range manyFieldNumbers() {
		if got, want := impl.FpOf(n), wordedFieldOf(n); got != want {
			t.Errorf("FpOf(%d) = %d, want %d", n, got, want)
		}
	}
}

// The numbers were worked out apart from the program.
func TestFpOfForms(t *testing.T) {
	for _, form := range [][2]int{
		{0, 0}, {1, 1}, {-1, 12106}, {12106, 12106}, {-12106, 1}, {12107, 0}, {-12107, 0}, {12108, 1}, {-12108, 12106}, {-24214, 0},
		{math.MaxInt, 5504}, {math.MinInt, 6602},
	} {
		if got := impl.FpOf(form[0]); got != form[1] {
			t.Errorf("FpOf(%d) = %d, want %d", form[0], got, form[1])
		}
	}
}

func TestFieldSumsDifferencesAndProducts(t *testing.T) {
	list := manyFieldNumbers()
	for _, a := range list {
		for _, b := range list {
			x, y := big.NewInt(int64(a)), big.NewInt(int64(b))
			if got, want := impl.FpAdd(a, b), wordedField(new(big.Int).Add(x, y)); got != want {
				t.Errorf("FpAdd(%d, %d) = %d, want %d", a, b, got, want)
			}
			if got, want := impl.FpSub(a, b), wordedField(new(big.Int).Sub(x, y)); got != want {
				t.Errorf("FpSub(%d, %d) = %d, want %d", a, b, got, want)
			}
			if got, want := impl.FpMul(a, b), wordedField(new(big.Int).Mul(x, y)); got != want {
				t.Errorf("FpMul(%d, %d) = %d, want %d", a, b, got, want)
			}
		}
	}
}

// All numbers of the field against some of them, by plain numbers that stay far below what an int holds.
func TestFieldOfAllNumbers(t *testing.T) {
	for _, a := range []int{0, 1, 2, 3, 110, 111, 4999, 6053, 6054, 10007, 12104, 12105, 12106} {
		for b := range 12107 {
			if got, want := impl.FpAdd(a, b), (a+b)%12107; got != want {
				t.Errorf("FpAdd(%d, %d) = %d, want %d", a, b, got, want)
			}
			if got, want := impl.FpSub(a, b), (a+12107-b)%12107; got != want {
				t.Errorf("FpSub(%d, %d) = %d, want %d", a, b, got, want)
			}
			if got, want := impl.FpMul(a, b), a*b%12107; got != want {
				t.Errorf("FpMul(%d, %d) = %d, want %d", a, b, got, want)
			}
		}
	}
}

func TestFpAddAndFpSubUndoOneAnother(t *testing.T) {
	list := manyFieldNumbers()
	for _, a := range list {
		for _, b := range list {
			if got, want := impl.FpSub(impl.FpAdd(a, b), b), wordedFieldOf(a); got != want {
				t.Errorf("FpSub of FpAdd(%d, %d) = %d, want %d", a, b, got, want)
			}
			if got, want := impl.FpAdd(impl.FpSub(a, b), b), wordedFieldOf(a); got != want {
				t.Errorf("FpAdd of FpSub(%d, %d) = %d, want %d", a, b, got, want)
			}
		}
	}
}

func TestFieldLaws(t *testing.T) {
	list := fieldEdges()
	for _, a := range list {
		for _, b := range list {
			if impl.FpAdd(a, b) != impl.FpAdd(b, a) || impl.FpMul(a, b) != impl.FpMul(b, a) {
				t.Errorf("%d and %d make other than the other way round", a, b)
			}
			for _, c := range list {
				if impl.FpAdd(impl.FpAdd(a, b), c) != impl.FpAdd(a, impl.FpAdd(b, c)) {
					t.Errorf("sums of %d, %d and %d are not alike", a, b, c)
				}
				if impl.FpMul(impl.FpMul(a, b), c) != impl.FpMul(a, impl.FpMul(b, c)) {
					t.Errorf("products of %d, %d and %d are not alike", a, b, c)
				}
				if impl.FpMul(a, impl.FpAdd(b, c)) != impl.FpAdd(impl.FpMul(a, b), impl.FpMul(a, c)) {
					t.Errorf("%d times the sum of %d and %d is not the sum of both products", a, b, c)
				}
			}
		}
	}
}

func TestFpPowIsFpMulSoOften(t *testing.T) {
	for _, a := range manyFieldNumbers() {
		want := 1
		for n := range 200 {
			if got := impl.FpPow(a, n); got != want {
				t.Errorf("FpPow(%d, %d) = %d, want %d", a, n, got, want)
			}
			want = want * wordedFieldOf(a) % 12107
			if got := impl.FpMul(impl.FpPow(a, n), a); got != want {
				t.Errorf("FpMul of FpPow(%d, %d) = %d, want %d", a, n, got, want)
			}
		}
	}
}

func TestFpPowByGreatNumbers(t *testing.T) {
	size := big.NewInt(12107)
	for _, a := range manyFieldNumbers() {
		for _, n := range manyFieldNumbers() {
			want := 0
			if n >= 0 {
				want = wordedField(new(big.Int).Exp(big.NewInt(int64(wordedFieldOf(a))), big.NewInt(int64(n)), size))
			}
			if got := impl.FpPow(a, n); got != want {
				t.Errorf("FpPow(%d, %d) = %d, want %d", a, n, got, want)
			}
		}
	}
}

func TestFpPowByTheSizeLessOne(t *testing.T) {
	for a := 1; a < 12107; a++ {
		if got := impl.FpPow(a, impl.FieldP-1); got != 1 {
			t.Errorf("FpPow(%d, FieldP - 1) = %d, want 1", a, got)
		}
		if got := impl.FpPow(a, impl.FieldP); got != a {
			t.Errorf("FpPow(%d, FieldP) = %d, want %d", a, got, a)
		}
	}
	for _, a := range []int{0, 12107, -12107, 24214} {
		if got := impl.FpPow(a, impl.FieldP-1); got != 0 {
			t.Errorf("FpPow(%d, FieldP - 1) = %d, want 0", a, got)
		}
	}
}

func TestFpPowByNoneAndByOne(t *testing.T) {
	for _, a := range manyFieldNumbers() {
		if got := impl.FpPow(a, 0); got != 1 {
			t.Errorf("FpPow(%d, 0) = %d, want 1", a, got)
		}
		if got, want := impl.FpPow(a, 1), wordedFieldOf(a); got != want {
			t.Errorf("FpPow(%d, 1) = %d, want %d", a, got, want)
		}
	}
}

func TestFpPowByLessThanNone(t *testing.T) {
	for _, a := range manyFieldNumbers() {
		for _, n := range []int{-1, -2, -3, -12105, -12106, -12107, -1 << 32, math.MinInt, math.MinInt + 1} {
			if got := impl.FpPow(a, n); got != 0 {
				t.Errorf("FpPow(%d, %d) = %d, want 0", a, n, got)
			}
		}
	}
}

func TestFpInv(t *testing.T) {
	for a := 1; a < 12107; a++ {
		inverse := impl.FpInv(a)
		if inverse < 1 || inverse > 12106 || a*inverse%12107 != 1 || impl.FpMul(a, inverse) != 1 {
			t.Errorf("FpInv(%d) = %d, which makes %d with it", a, inverse, impl.FpMul(a, inverse))
		}
		for _, n := range []int{a - 12107, a + 12107, a - 5000*12107} {
			if got := impl.FpInv(n); got != inverse {
				t.Errorf("FpInv(%d) = %d, but FpInv(%d) = %d", n, got, a, inverse)
			}
		}
	}
	for _, a := range manyFieldNumbers() {
		if wordedFieldOf(a) == 0 {
			continue
		}
		if got := impl.FpInv(a); got < 1 || got > 12106 || wordedFieldOf(a)*got%12107 != 1 {
			t.Errorf("FpInv(%d) = %d", a, got)
		}
	}
}

func TestFpInvOfNought(t *testing.T) {
	last := math.MaxInt - math.MaxInt%12107
	for _, a := range []int{0, 12107, -12107, 24214, -24214, 12107 * 12107, last, -last} {
		if got := impl.FpInv(a); got != 0 {
			t.Errorf("FpInv(%d) = %d, want 0", a, got)
		}
	}
}

func TestFpRootOfAllNumbers(t *testing.T) {
	roots := 0
	for a, want := range leastRoots() {
		wantOk := want >= 0
		if wantOk {
			roots++
		} else {
			want = 0
		}
		for _, n := range []int{a, a + 12107, a - 12107, a + 700000*12107, a - 700000*12107} {
			if got, ok := impl.FpRoot(n); ok != wantOk || got != want {
				t.Errorf("FpRoot(%d) = %d, %v, want %d, %v", n, got, ok, want, wantOk)
			}
		}
	}
	if roots != 6054 {
		t.Errorf("%d numbers have a root, want 6054", roots)
	}
}

func TestFpRootOfSquares(t *testing.T) {
	for r := range 12107 {
		square := impl.FpMul(r, r)
		got, ok := impl.FpRoot(square)
		if want := min(r, (12107-r)%12107); !ok || got != want {
			t.Errorf("FpRoot(%d) = %d, %v, want %d, true", square, got, ok, want)
		}
		if impl.FpMul(got, got) != square {
			t.Errorf("the square of FpRoot(%d) = %d is %d", square, got, impl.FpMul(got, got))
		}
	}
}

func TestFpRootOfManyNumbers(t *testing.T) {
	roots := leastRoots()
	for _, a := range manyFieldNumbers() {
		want := roots[wordedFieldOf(a)]
		got, ok := impl.FpRoot(a)
		if ok != (want >= 0) || got != max(want, 0) {
			t.Errorf("FpRoot(%d) = %d, %v, want %d, %v", a, got, ok, max(want, 0), want >= 0)
		}
	}
}

func TestFpRootForms(t *testing.T) {
	for _, form := range []struct {
		a    int
		root int
		ok   bool
	}{
		{0, 0, true}, {12107, 0, true}, {-12107, 0, true}, {1, 1, true}, {12108, 1, true}, {-12106, 1, true},
		{4, 2, true}, {9, 3, true}, {12100, 110, true}, {12321, 111, true}, {6053 * 6053, 6053, true}, {6054 * 6054, 6053, true},
		{-1, 0, false}, {12106, 0, false}, {24213, 0, false}, {-4, 0, false}, {-9, 0, false}, {-12100, 0, false},
	} {
		if root, ok := impl.FpRoot(form.a); root != form.root || ok != form.ok {
			t.Errorf("FpRoot(%d) = %d, %v, want %d, %v", form.a, root, ok, form.root, form.ok)
		}
	}
}
