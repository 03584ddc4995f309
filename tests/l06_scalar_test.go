package tests

import (
	"math"
	"math/big"
	"slices"
	"testing"

	"loop.example/g00321/impl"
)

// wordedScalar is a number modulo OrderR, worked out by numbers of any size.
func wordedScalar(n *big.Int) int {
	return int(new(big.Int).Mod(n, big.NewInt(1009)).Int64())
}

func wordedScalarOf(n int) int {
	return wordedScalar(big.NewInt(int64(n)))
}

// wordedDot adds all products by numbers of any size and brings them into 0 .. OrderR - 1 at the end alone.
func wordedDot(a []int, b []int) int {
	sum := new(big.Int)
	for i := 0; i < len(a) && i < len(b); i++ {
		sum.Add(sum, new(big.Int).Mul(big.NewInt(int64(a[i])), big.NewInt(int64(b[i]))))
	}
	return wordedScalar(sum)
}

// stepDot adds each product one by one.
func stepDot(a []int, b []int) int {
	sum := 0
	for i := 0; i < len(a) && i < len(b); i++ {
		sum = impl.ScAdd(sum, impl.ScMul(a[i], b[i]))
	}
	return sum
}

// scalarEdges are 0, 1, OrderR and the numbers about it, ends of an int, what lies near them, and the negatives.
func scalarEdges() []int {
	list := []int{math.MinInt, math.MinInt + 1, math.MinInt + 1009, math.MaxInt - 1009}
	for _, n := range []int{
		0, 1, 2, 3, 504, 505, 1007, 1008, 1009, 1010, 1011, 2017, 2018, 2019, 12107, 1009*1009 - 1, 1009 * 1009,
		1 << 31, 1<<31 - 1, 1 << 32, 3037000499, 3037000500, 1 << 62, math.MaxInt - 1, math.MaxInt,
	} {
		list = append(list, n, -n)
	}
	return list
}

// manyScalars are the edges and numbers scattered over the whole of an int.
func manyScalars() []int {
	list := scalarEdges()
	for n := uint64(11); len(list) < 300; n = n*6364136223846793005 + 1442695040888963407 {
		list = append(list, int(n), int(n>>40))
	}
	return list
}

// scatteredScalars are so many numbers over the whole of an int, others for each start.
func scatteredScalars(start uint64, count int) []int {
	list := make([]int, count)
	for i := range list {
		start = start*6364136223846793005 + 1442695040888963407
		list[i] = int(start)
	}
	return list
}

func TestScalarSize(t *testing.T) {
	if impl.OrderR != 1009 {
		t.Errorf("OrderR = %d, want 1009", impl.OrderR)
	}
	for d := 2; d*d <= impl.OrderR; d++ {
		if impl.OrderR%d == 0 {
			t.Errorf("OrderR is divided by %d", d)
		}
	}
}

func TestScOf(t *testing.T) {
	for a := range 1009 {
		for _, n := range []int{a, a + 1009, a - 1009, a - 2018, a + 70000*1009, a - 70000*1009} {
			if got := impl.ScOf(n); got != a {
				t.Errorf("ScOf(%d) = %d, want %d", n, got, a)
			}
		}
	}
	for _, n := range manyScalars() {
		if got, want := impl.ScOf(n), wordedScalarOf(n); got != want {
			t.Errorf("ScOf(%d) = %d, want %d", n, got, want)
		}
	}
}

// The numbers were worked out apart from the program.
func TestScOfForms(t *testing.T) {
	for _, form := range [][2]int{
		{0, 0}, {1, 1}, {-1, 1008}, {1008, 1008}, {-1008, 1}, {1009, 0}, {-1009, 0}, {1010, 1}, {-1010, 1008}, {-2018, 0}, {-2019, 1008},
		{math.MaxInt, 191}, {math.MaxInt - 1, 190}, {math.MinInt, 817}, {math.MinInt + 1, 818},
	} {
		if got := impl.ScOf(form[0]); got != form[1] {
			t.Errorf("ScOf(%d) = %d, want %d", form[0], got, form[1])
		}
	}
}

func TestScalarSumsAndProducts(t *testing.T) {
	list := manyScalars()
	for _, a := range list {
		for _, b := range list {
			x, y := big.NewInt(int64(a)), big.NewInt(int64(b))
			if got, want := impl.ScAdd(a, b), wordedScalar(new(big.Int).Add(x, y)); got != want {
				t.Errorf("ScAdd(%d, %d) = %d, want %d", a, b, got, want)
			}
			if got, want := impl.ScMul(a, b), wordedScalar(new(big.Int).Mul(x, y)); got != want {
				t.Errorf("ScMul(%d, %d) = %d, want %d", a, b, got, want)
			}
		}
	}
}

// The numbers were worked out apart from the program.
func TestScalarSumAndProductForms(t *testing.T) {
	for _, form := range []struct{ a, b, sum, product int }{
		{0, 0, 0, 0}, {1, 1, 2, 1}, {1000, 10, 1, 919}, {1008, 1008, 1007, 1}, {504, 505, 0, 252}, {500, 3, 503, 491},
		{-1, -1, 1007, 1}, {-1, 1, 0, 1008}, {1010, -1010, 0, 1008}, {123456789, -987654321, 878, 193},
		{math.MaxInt, math.MaxInt, 382, 157}, {math.MinInt, math.MinInt, 625, 540},
		{math.MaxInt, math.MinInt, 1008, 661}, {math.MinInt, math.MaxInt, 1008, 661},
	} {
		if got := impl.ScAdd(form.a, form.b); got != form.sum {
			t.Errorf("ScAdd(%d, %d) = %d, want %d", form.a, form.b, got, form.sum)
		}
		if got := impl.ScMul(form.a, form.b); got != form.product {
			t.Errorf("ScMul(%d, %d) = %d, want %d", form.a, form.b, got, form.product)
		}
	}
}

// All scalars with one another, by plain numbers that stay far below what an int holds, and with each less OrderR.
func TestScalarsAllWithOneAnother(t *testing.T) {
	for a := range 1009 {
		for b := range 1009 {
			sum, product := (a+b)%1009, a*b%1009
			if got := impl.ScAdd(a, b); got != sum {
				t.Errorf("ScAdd(%d, %d) = %d, want %d", a, b, got, sum)
			}
			if got := impl.ScMul(a, b); got != product {
				t.Errorf("ScMul(%d, %d) = %d, want %d", a, b, got, product)
			}
			if got := impl.ScAdd(a-1009, b-1009); got != sum {
				t.Errorf("ScAdd(%d, %d) = %d, want %d", a-1009, b-1009, got, sum)
			}
			if got := impl.ScMul(a-1009, b); got != product {
				t.Errorf("ScMul(%d, %d) = %d, want %d", a-1009, b, got, product)
			}
		}
	}
}

func TestScalarLaws(t *testing.T) {
	list := scalarEdges()
	for _, a := range list {
		for _, b := range list {
			if impl.ScAdd(a, b) != impl.ScAdd(b, a) || impl.ScMul(a, b) != impl.ScMul(b, a) {
				t.Errorf("%d and %d make other than the other way round", a, b)
			}
			for _, c := range list {
				if impl.ScAdd(impl.ScAdd(a, b), c) != impl.ScAdd(a, impl.ScAdd(b, c)) {
					t.Errorf("sums of %d, %d and %d are not alike", a, b, c)
				}
				if impl.ScMul(impl.ScMul(a, b), c) != impl.ScMul(a, impl.ScMul(b, c)) {
					t.Errorf("products of %d, %d and %d are not alike", a, b, c)
				}
				if impl.ScMul(a, impl.ScAdd(b, c)) != impl.ScAdd(impl.ScMul(a, b), impl.ScMul(a, c)) {
					t.Errorf("%d times the sum of %d and %d is not the sum of both products", a, b, c)
				}
			}
		}
	}
}

func TestScalarNoughtAndOne(t *testing.T) {
	for _, a := range manyScalars() {
		want := wordedScalarOf(a)
		for _, nought := range []int{0, 1009, -1009, 2018} {
			if got := impl.ScAdd(a, nought); got != want {
				t.Errorf("ScAdd(%d, %d) = %d, want %d", a, nought, got, want)
			}
			if got := impl.ScMul(a, nought); got != 0 {
				t.Errorf("ScMul(%d, %d) = %d, want 0", a, nought, got)
			}
		}
		for _, one := range []int{1, 1010, -1008} {
			if got := impl.ScMul(a, one); got != want {
				t.Errorf("ScMul(%d, %d) = %d, want %d", a, one, got, want)
			}
		}
	}
}

func TestScNeg(t *testing.T) {
	all := manyScalars()
	for a := range 1009 {
		all = append(all, a, a-1009, a+1009)
	}
	for _, a := range all {
		less := impl.ScNeg(a)
		if want := wordedScalar(new(big.Int).Neg(big.NewInt(int64(a)))); less != want {
			t.Errorf("ScNeg(%d) = %d, want %d", a, less, want)
		}
		if got := impl.ScAdd(a, less); got != 0 {
			t.Errorf("%d and its ScNeg %d together are %d, want 0", a, less, got)
		}
		if got, want := impl.ScNeg(less), wordedScalarOf(a); got != want {
			t.Errorf("ScNeg of ScNeg(%d) = %d, want %d", a, got, want)
		}
		if got := impl.ScMul(a, -1); got != less {
			t.Errorf("ScMul(%d, -1) = %d, but its ScNeg is %d", a, got, less)
		}
	}
}

// The numbers were worked out apart from the program.
func TestScNegForms(t *testing.T) {
	for _, form := range [][2]int{
		{0, 0}, {1009, 0}, {-1009, 0}, {2018, 0}, {1, 1008}, {-1, 1}, {1008, 1}, {-1008, 1008}, {1010, 1008}, {-1010, 1}, {504, 505}, {505, 504},
		{1000000000, 729}, {math.MaxInt, 818}, {math.MinInt, 192}, {math.MinInt + 1, 191},
	} {
		if got := impl.ScNeg(form[0]); got != form[1] {
			t.Errorf("ScNeg(%d) = %d, want %d", form[0], got, form[1])
		}
	}
}

func TestScInv(t *testing.T) {
	for a := 1; a < 1009; a++ {
		inverse := impl.ScInv(a)
		if inverse < 1 || inverse > 1008 || a*inverse%1009 != 1 || impl.ScMul(a, inverse) != 1 {
			t.Errorf("ScInv(%d) = %d, which makes %d with it", a, inverse, impl.ScMul(a, inverse))
		}
		if got := impl.ScInv(inverse); got != a {
			t.Errorf("ScInv of ScInv(%d) = %d", a, got)
		}
		for _, n := range []int{a - 1009, a + 1009, a - 5000*1009, a + 9000000000000000*1009, a - 9000000000000000*1009} {
			if got := impl.ScInv(n); got != inverse {
				t.Errorf("ScInv(%d) = %d, but ScInv(%d) = %d", n, got, a, inverse)
			}
		}
	}
	for _, a := range manyScalars() {
		if wordedScalarOf(a) == 0 {
			continue
		}
		if got := impl.ScInv(a); got < 1 || got > 1008 || wordedScalarOf(a)*got%1009 != 1 {
			t.Errorf("ScInv(%d) = %d", a, got)
		}
	}
}

// The numbers were worked out apart from the program.
func TestScInvForms(t *testing.T) {
	for _, form := range [][2]int{
		{1, 1}, {2, 505}, {3, 673}, {5, 202}, {7, 865}, {504, 1007}, {505, 2}, {1007, 504}, {1008, 1008},
		{-1, 1008}, {-2, 504}, {-1008, 1}, {1010, 1}, {-1010, 1008}, {1011, 505}, {1000000000, 400},
		{math.MaxInt, 766}, {math.MinInt, 762}, {math.MaxInt - 1, 855}, {math.MinInt + 1, 243},
	} {
		if got := impl.ScInv(form[0]); got != form[1] {
			t.Errorf("ScInv(%d) = %d, want %d", form[0], got, form[1])
		}
	}
}

func TestScInvOfNought(t *testing.T) {
	last := math.MaxInt - math.MaxInt%1009
	for _, a := range []int{0, 1009, -1009, 2018, -2018, 1009 * 1009, -1009 * 1009, last, -last} {
		if got := impl.ScInv(a); got != 0 {
			t.Errorf("ScInv(%d) = %d, want 0", a, got)
		}
	}
}

func checkDot(t *testing.T, a []int, b []int) {
	t.Helper()
	got := impl.ScDot(a, b)
	if want := wordedDot(a, b); got != want {
		t.Errorf("ScDot of %d and %d numbers = %d, want %d", len(a), len(b), got, want)
	}
	if want := stepDot(a, b); got != want {
		t.Errorf("ScDot of %d and %d numbers = %d, but one by one they make %d", len(a), len(b), got, want)
	}
	if turned := impl.ScDot(b, a); turned != got {
		t.Errorf("ScDot of %d and %d numbers = %d, but %d the other way round", len(a), len(b), got, turned)
	}
}

func TestScDotOfSeveralLengths(t *testing.T) {
	for _, length := range []int{0, 1, 2, 3, 4, 5, 7, 8, 16, 20, 31, 64, 100, 1008, 1009, 1010, 5000} {
		wide, other := scatteredScalars(17, length), scatteredScalars(23, length)
		checkDot(t, wide, other)
		small, least := make([]int, length), make([]int, length)
		for i := range length {
			small[i], least[i] = wordedScalarOf(wide[i]), wordedScalarOf(other[i])
		}
		checkDot(t, small, least)
		checkDot(t, wide, least)
		if got, want := impl.ScDot(small, least), impl.ScDot(wide, other); got != want {
			t.Errorf("ScDot of %d scalars = %d, but before ScOf it is %d", length, got, want)
		}
		checkDot(t, small, small)
	}
}

// The numbers were worked out apart from the program.
func TestScDotForms(t *testing.T) {
	for _, form := range []struct {
		a, b []int
		want int
	}{
		{[]int{1, 2}, []int{3, 4, 5}, 11},
		{[]int{500, 600, 700}, []int{800, 900, 1000}, 375},
		{[]int{1008, 1008, 1008, 1008, 1008}, []int{1008, 1008, 1008, 1008, 1008}, 5},
		{[]int{-1, -2, -3}, []int{4, 5, 6}, 977},
		{[]int{1009, 2018, -1009}, []int{math.MaxInt, math.MinInt, 5}, 0},
		{[]int{math.MaxInt}, []int{math.MinInt}, 661},
		{[]int{math.MaxInt, math.MaxInt}, []int{math.MaxInt, math.MaxInt}, 314},
		{[]int{math.MaxInt, math.MinInt}, []int{math.MinInt, math.MaxInt}, 313},
		{[]int{math.MinInt, math.MinInt, math.MinInt}, []int{math.MinInt, math.MinInt, math.MinInt}, 611},
		{[]int{math.MaxInt, -1, math.MinInt}, []int{1, math.MinInt, -1}, 575},
	} {
		if got := impl.ScDot(form.a, form.b); got != form.want {
			t.Errorf("ScDot(%v, %v) = %d, want %d", form.a, form.b, got, form.want)
		}
	}
}

func TestScDotOfOneNumberEach(t *testing.T) {
	list := manyScalars()
	for _, a := range list {
		for _, b := range list {
			if got, want := impl.ScDot([]int{a}, []int{b}), impl.ScMul(a, b); got != want {
				t.Errorf("ScDot of %d and %d = %d, want %d", a, b, got, want)
			}
		}
	}
}

// Every edge at every place of a list, among other numbers.
func TestScDotWithEdgesWithinLists(t *testing.T) {
	for _, edge := range scalarEdges() {
		for place := range 6 {
			a, b := scatteredScalars(29, 6), scatteredScalars(31, 6)
			a[place] = edge
			checkDot(t, a, b)
			b[place] = edge
			checkDot(t, a, b)
		}
	}
}

func TestScDotOfEmptyLists(t *testing.T) {
	spare := []int{3, 4, 5}
	for _, none := range [][]int{nil, {}, spare[:0]} {
		for _, other := range [][]int{nil, {}, spare[:0], {0}, {1}, {1, 2, 3}, {math.MinInt, math.MaxInt}} {
			if got := impl.ScDot(none, other); got != 0 {
				t.Errorf("ScDot(%v, %v) = %d, want 0", none, other, got)
			}
			if got := impl.ScDot(other, none); got != 0 {
				t.Errorf("ScDot(%v, %v) = %d, want 0", other, none, got)
			}
		}
	}
}

// The shorter list has numbers in the spare room behind it, which are not its own.
func TestScDotOfUnlikeLengths(t *testing.T) {
	long, other := scatteredScalars(37, 25), scatteredScalars(41, 25)
	for first := range 26 {
		for second := range 26 {
			checkDot(t, long[:first], other[:second])
			both := min(first, second)
			got := impl.ScDot(long[:first], other[:second])
			if want := impl.ScDot(slices.Clone(long[:both]), slices.Clone(other[:both])); got != want {
				t.Errorf("ScDot of %d and %d numbers = %d, want %d, of those that both have", first, second, got, want)
			}
		}
	}
}

// Each product alone, or all of them together, would pass what an int holds.
func TestScDotOfManyGreatNumbers(t *testing.T) {
	for _, pair := range [][2]int{
		{1 << 31, 1 << 31}, {1 << 31, -1 << 31}, {-1 << 31, -1 << 31}, {3037000499, 3037000499}, {-3037000499, 3037000499},
		{math.MaxInt, 1}, {1, math.MinInt}, {math.MaxInt, math.MaxInt}, {math.MinInt, math.MinInt}, {math.MaxInt, math.MinInt}, {math.MinInt, -1},
	} {
		for _, length := range []int{2, 3, 8, 1000, 20000} {
			checkDot(t, slices.Repeat([]int{pair[0]}, length), slices.Repeat([]int{pair[1]}, length))
		}
	}
	checkDot(t, scatteredScalars(43, 50000), scatteredScalars(47, 50000))
}

func TestScDotLeavesItsListsAsTheyWere(t *testing.T) {
	for _, lengths := range [][2]int{{0, 0}, {0, 9}, {1, 1}, {4, 4}, {4, 9}, {9, 4}, {12, 12}} {
		a, b := scatteredScalars(53, 12), scatteredScalars(59, 12)
		wasA, wasB := slices.Clone(a), slices.Clone(b)
		got := impl.ScDot(a[:lengths[0]], b[:lengths[1]])
		if !slices.Equal(a, wasA) || !slices.Equal(b, wasB) {
			t.Errorf("ScDot of %d and %d numbers has changed its lists, or what is behind them", lengths[0], lengths[1])
		}
		if again := impl.ScDot(a[:lengths[0]], b[:lengths[1]]); again != got {
			t.Errorf("ScDot of %d and %d numbers = %d, then %d", lengths[0], lengths[1], got, again)
		}
	}
}

func TestScDotOfAListWithItself(t *testing.T) {
	a := scatteredScalars(61, 40)
	was := slices.Clone(a)
	checkDot(t, a, a)
	checkDot(t, a[:30], a[5:])
	if !slices.Equal(a, was) {
		t.Error("ScDot of a list with itself has changed it")
	}
}
