package tests

import (
	"math"
	"math/big"
	"testing"

	"loop.example/g00321/impl"
)

// wordedTwoOf brings both parts into the field by numbers of any size.
func wordedTwoOf(x impl.Two) impl.Two {
	return impl.Two{A: wordedFieldOf(x.A), B: wordedFieldOf(x.B)}
}

// wordedTwoMul is the product by the document's words, worked out by numbers of any size.
func wordedTwoMul(x impl.Two, y impl.Two) impl.Two {
	xa, xb, ya, yb := big.NewInt(int64(x.A)), big.NewInt(int64(x.B)), big.NewInt(int64(y.A)), big.NewInt(int64(y.B))
	first := new(big.Int).Sub(new(big.Int).Mul(xa, ya), new(big.Int).Mul(xb, yb))
	second := new(big.Int).Add(new(big.Int).Mul(xa, yb), new(big.Int).Mul(xb, ya))
	return impl.Two{A: wordedField(first), B: wordedField(second)}
}

// wordedTwoPow goes through the bits of n from the highest on.
func wordedTwoPow(x impl.Two, n int) impl.Two {
	if n < 0 {
		return impl.Two{}
	}
	result := impl.Two{A: 1}
	for bit := 62; bit >= 0; bit-- {
		result = wordedTwoMul(result, result)
		if n>>bit&1 == 1 {
			result = wordedTwoMul(result, x)
		}
	}
	return result
}

// twoEdges have each of the parts that the document's limits, 0 and the ends of an int give, with each other.
func twoEdges() []impl.Two {
	parts := []int{
		0, 1, -1, 12106, -12106, 12107, -12107, 12108, -12108,
		math.MaxInt, math.MaxInt - 1, -math.MaxInt, math.MinInt, math.MaxInt - math.MaxInt%12107,
	}
	var list []impl.Two
	for _, a := range parts {
		for _, b := range parts {
			list = append(list, impl.Two{A: a, B: b})
		}
	}
	return list
}

// manyTwos are the edges, and numbers scattered over the field and over the whole of an int, some with a part that is 0.
func manyTwos() []impl.Two {
	list := twoEdges()
	for n := uint64(7); len(list) < 300; n = n*6364136223846793005 + 1442695040888963407 {
		a, b := int(n), int(n*2862933555777941757+3037000493)
		right := impl.Two{A: int(n>>33) % 12107, B: int(n>>17%(1<<31)) % 12107}
		list = append(list, impl.Two{A: a, B: b}, right, impl.Two{A: right.A}, impl.Two{B: right.B})
	}
	return list
}

// linesOfTwos are numbers of the field: all of them that have one of some parts first or second.
func linesOfTwos() []impl.Two {
	var list []impl.Two
	for _, a := range []int{0, 1, 2, 110, 4999, 6053, 6054, 12105, 12106} {
		for b := range 12107 {
			list = append(list, impl.Two{A: a, B: b}, impl.Two{A: b, B: a})
		}
	}
	return list
}

func TestTwoOkOfRightNumbers(t *testing.T) {
	for _, x := range linesOfTwos() {
		if !impl.TwoOk(x) {
			t.Errorf("TwoOk(%v) = false", x)
		}
	}
}

func TestTwoOkOfWrongNumbers(t *testing.T) {
	wrong := []int{-1, -2, -12106, -12107, 12107, 12108, 24214, 1 << 16, 1 << 32, 1<<32 + 5, -1 << 32, math.MaxInt, math.MaxInt - 1, math.MinInt, math.MinInt + 1}
	for _, bad := range wrong {
		for _, good := range []int{0, 1, 6053, 12105, 12106} {
			for _, x := range []impl.Two{{A: bad, B: good}, {A: good, B: bad}, {A: bad, B: bad}} {
				if impl.TwoOk(x) {
					t.Errorf("TwoOk(%v) = true", x)
				}
			}
		}
		for _, other := range wrong {
			if impl.TwoOk(impl.Two{A: bad, B: other}) {
				t.Errorf("TwoOk of %d and %d = true", bad, other)
			}
		}
	}
}

func TestTwoSumsAndProducts(t *testing.T) {
	list := manyTwos()
	for _, x := range list {
		for _, y := range list {
			sum := impl.TwoAdd(x, y)
			if want := (impl.Two{A: impl.FpAdd(x.A, y.A), B: impl.FpAdd(x.B, y.B)}); sum != want {
				t.Errorf("TwoAdd(%v, %v) = %v, want %v", x, y, sum, want)
			}
			a := impl.FpSub(impl.FpMul(x.A, y.A), impl.FpMul(x.B, y.B))
			b := impl.FpAdd(impl.FpMul(x.A, y.B), impl.FpMul(x.B, y.A))
			product := impl.TwoMul(x, y)
			if want := (impl.Two{A: a, B: b}); product != want {
				t.Errorf("TwoMul(%v, %v) = %v, want %v", x, y, product, want)
			}
			if want := wordedTwoMul(x, y); product != want {
				t.Errorf("TwoMul(%v, %v) = %v, but numbers of any size give %v", x, y, product, want)
			}
			if !impl.TwoOk(sum) || !impl.TwoOk(product) {
				t.Errorf("%v and %v make %v and %v, which are not right", x, y, sum, product)
			}
			if impl.TwoAdd(y, x) != sum || impl.TwoMul(y, x) != product {
				t.Errorf("%v and %v make other than the other way round", x, y)
			}
		}
	}
}

// The numbers were worked out apart from the program.
func TestTwoForms(t *testing.T) {
	for _, form := range []struct{ x, y, sum, product impl.Two }{
		{impl.Two{}, impl.Two{}, impl.Two{}, impl.Two{}},
		{impl.Two{A: 3, B: 4}, impl.Two{A: 5, B: 6}, impl.Two{A: 8, B: 10}, impl.Two{A: 12098, B: 38}},
		{impl.Two{B: 1}, impl.Two{B: 1}, impl.Two{B: 2}, impl.Two{A: 12106}},
		{impl.Two{A: 12106, B: 1}, impl.Two{A: 1, B: 12106}, impl.Two{}, impl.Two{B: 2}},
		{impl.Two{A: 2}, impl.Two{A: 3, B: 5}, impl.Two{A: 5, B: 5}, impl.Two{A: 6, B: 10}},
		{impl.Two{B: 2}, impl.Two{A: 3, B: 5}, impl.Two{A: 3, B: 7}, impl.Two{A: 12097, B: 6}},
		{impl.Two{A: 110, B: 111}, impl.Two{A: 4999, B: 10007}, impl.Two{A: 5109, B: 10118}, impl.Two{A: 8142, B: 9107}},
		{impl.Two{A: math.MaxInt, B: math.MinInt}, impl.Two{A: math.MinInt, B: math.MaxInt}, impl.Two{A: 12106, B: 12106}, impl.Two{B: 3506}},
	} {
		if got := impl.TwoAdd(form.x, form.y); got != form.sum {
			t.Errorf("TwoAdd(%v, %v) = %v, want %v", form.x, form.y, got, form.sum)
		}
		if got := impl.TwoMul(form.x, form.y); got != form.product {
			t.Errorf("TwoMul(%v, %v) = %v, want %v", form.x, form.y, got, form.product)
		}
	}
}

func TestTwoLaws(t *testing.T) {
	var list []impl.Two
	for i, x := range manyTwos() {
		if i%4 == 0 {
			list = append(list, x)
		}
	}
	for _, x := range list {
		for _, y := range list {
			for _, z := range list {
				if impl.TwoAdd(impl.TwoAdd(x, y), z) != impl.TwoAdd(x, impl.TwoAdd(y, z)) {
					t.Errorf("sums of %v, %v and %v are not alike", x, y, z)
				}
				if impl.TwoMul(impl.TwoMul(x, y), z) != impl.TwoMul(x, impl.TwoMul(y, z)) {
					t.Errorf("products of %v, %v and %v are not alike", x, y, z)
				}
				if impl.TwoMul(x, impl.TwoAdd(y, z)) != impl.TwoAdd(impl.TwoMul(x, y), impl.TwoMul(x, z)) {
					t.Errorf("%v times the sum of %v and %v is not the sum of both products", x, y, z)
				}
			}
		}
	}
}

func TestTwoNoughtAndOne(t *testing.T) {
	for _, x := range manyTwos() {
		want := wordedTwoOf(x)
		for _, nought := range []impl.Two{{}, {A: 12107}, {B: -12107}, {A: -24214, B: 12107}} {
			if got := impl.TwoAdd(x, nought); got != want {
				t.Errorf("TwoAdd(%v, %v) = %v, want %v", x, nought, got, want)
			}
			if got := impl.TwoMul(x, nought); got != (impl.Two{}) {
				t.Errorf("TwoMul(%v, %v) = %v, want both 0", x, nought, got)
			}
		}
		for _, one := range []impl.Two{{A: 1}, {A: 12108}, {A: -12106, B: 12107}} {
			if got := impl.TwoMul(x, one); got != want {
				t.Errorf("TwoMul(%v, %v) = %v, want %v", x, one, got, want)
			}
		}
		less := impl.TwoMul(x, impl.Two{A: -1})
		if got := impl.TwoAdd(x, less); got != (impl.Two{}) {
			t.Errorf("%v and %v together are %v, want both 0", x, less, got)
		}
	}
}

// Numbers without a second part are the numbers of the field.
func TestTwoWithoutSecondPart(t *testing.T) {
	for _, a := range manyFieldNumbers() {
		x := impl.Two{A: a}
		for _, b := range []int{0, 1, 2, -1, 6053, 12106, 12107, math.MaxInt, math.MinInt} {
			y := impl.Two{A: b}
			if got, want := impl.TwoAdd(x, y), (impl.Two{A: impl.FpAdd(a, b)}); got != want {
				t.Errorf("TwoAdd(%v, %v) = %v, want %v", x, y, got, want)
			}
			if got, want := impl.TwoMul(x, y), (impl.Two{A: impl.FpMul(a, b)}); got != want {
				t.Errorf("TwoMul(%v, %v) = %v, want %v", x, y, got, want)
			}
			if b < 0 {
				continue
			}
			if got, want := impl.TwoPow(x, b), (impl.Two{A: impl.FpPow(a, b)}); got != want {
				t.Errorf("TwoPow(%v, %d) = %v, want %v", x, b, got, want)
			}
		}
		if got, want := impl.TwoInv(x), (impl.Two{A: impl.FpInv(a)}); got != want {
			t.Errorf("TwoInv(%v) = %v, want %v", x, got, want)
		}
		if got := impl.TwoTurn(x); got != x {
			t.Errorf("TwoTurn(%v) = %v, want it as it is", x, got)
		}
	}
}

func TestTwoTurn(t *testing.T) {
	for _, x := range append(linesOfTwos(), manyTwos()...) {
		turned := impl.TwoTurn(x)
		if want := (impl.Two{A: x.A, B: wordedFieldOf(12107 - wordedFieldOf(x.B))}); turned != want {
			t.Errorf("TwoTurn(%v) = %v, want %v", x, turned, want)
		}
		both := impl.TwoMul(x, turned)
		want := impl.FpAdd(impl.FpMul(x.A, x.A), impl.FpMul(x.B, x.B))
		if both != (impl.Two{A: want}) {
			t.Errorf("%v and the one turned make %v, want %d and no second part", x, both, want)
		}
		if got, want := impl.TwoTurn(turned), (impl.Two{A: x.A, B: wordedFieldOf(x.B)}); got != want {
			t.Errorf("%v turned twice is %v, want %v", x, got, want)
		}
	}
}

func TestTwoTurnForms(t *testing.T) {
	for _, form := range [][2]impl.Two{
		{{}, {}},
		{{A: 5}, {A: 5}},
		{{B: 1}, {B: 12106}},
		{{B: 12106}, {B: 1}},
		{{A: 12106, B: 6053}, {A: 12106, B: 6054}},
		{{A: 3, B: 12107}, {A: 3}},
		{{A: 3, B: -12107}, {A: 3}},
		{{A: 3, B: -1}, {A: 3, B: 1}},
		{{A: 3, B: 12108}, {A: 3, B: 12106}},
		{{B: math.MaxInt}, {B: 6603}},
		{{B: math.MinInt}, {B: 5505}},
		{{A: 12107, B: 1}, {A: 12107, B: 12106}},
		{{A: math.MinInt, B: 2}, {A: math.MinInt, B: 12105}},
	} {
		if got := impl.TwoTurn(form[0]); got != form[1] {
			t.Errorf("TwoTurn(%v) = %v, want %v", form[0], got, form[1])
		}
	}
}

func TestTwoInv(t *testing.T) {
	for _, x := range append(linesOfTwos(), manyTwos()...) {
		if wordedTwoOf(x) == (impl.Two{}) {
			continue
		}
		inverse := impl.TwoInv(x)
		if !impl.TwoOk(inverse) {
			t.Errorf("TwoInv(%v) = %v, which is not right", x, inverse)
		}
		if got := impl.TwoMul(x, inverse); got != (impl.Two{A: 1}) {
			t.Errorf("%v and its TwoInv %v make %v", x, inverse, got)
		}
		if got := wordedTwoMul(x, inverse); got != (impl.Two{A: 1}) {
			t.Errorf("%v and its TwoInv %v make %v by numbers of any size", x, inverse, got)
		}
		if got, want := impl.TwoInv(inverse), wordedTwoOf(x); got != want {
			t.Errorf("TwoInv of TwoInv(%v) = %v, want %v", x, got, want)
		}
	}
}

// All small numbers, and numbers strewn evenly over the whole of the field.
func TestTwoInvOfStrewnNumbers(t *testing.T) {
	for a := range 12107 {
		for b := a % 97; b < 12107; b += 211 {
			x := impl.Two{A: a, B: b}
			if x != (impl.Two{}) && impl.TwoMul(impl.TwoInv(x), x) != (impl.Two{A: 1}) {
				t.Errorf("%v and its TwoInv make %v", x, impl.TwoMul(impl.TwoInv(x), x))
			}
		}
	}
	for a := range 200 {
		for b := range 200 {
			x := impl.Two{A: a, B: b}
			if a+b > 0 && impl.TwoMul(x, impl.TwoInv(x)) != (impl.Two{A: 1}) {
				t.Errorf("%v and its TwoInv make %v", x, impl.TwoMul(x, impl.TwoInv(x)))
			}
		}
	}
}

func TestTwoInvForms(t *testing.T) {
	for _, form := range [][2]impl.Two{
		{{A: 1}, {A: 1}},
		{{A: 12106}, {A: 12106}},
		{{A: 2}, {A: 6054}},
		{{B: 1}, {B: 12106}},
		{{B: 2}, {B: 6053}},
		{{A: 1, B: 1}, {A: 6054, B: 6053}},
		{{A: 3, B: 4}, {A: 10170, B: 10654}},
		{{A: 5, B: 12106}, {A: 6985, B: 1397}},
		{{A: 6053, B: 6054}, {A: 12106, B: 12106}},
		{{A: math.MaxInt, B: math.MinInt}, {A: 10748, B: 9087}},
		{{A: math.MinInt, B: math.MaxInt}, {A: 3020, B: 1359}},
		{{A: math.MaxInt}, {A: 10763}},
		{{B: math.MinInt}, {B: 4238}},
	} {
		if got := impl.TwoInv(form[0]); got != form[1] {
			t.Errorf("TwoInv(%v) = %v, want %v", form[0], got, form[1])
		}
	}
}

func TestTwoInvOfNought(t *testing.T) {
	last := math.MaxInt - math.MaxInt%12107
	noughts := []int{0, 12107, -12107, 24214, -24214, 12107 * 12107, last, -last}
	for _, a := range noughts {
		for _, b := range noughts {
			if got := impl.TwoInv(impl.Two{A: a, B: b}); got != (impl.Two{}) {
				t.Errorf("TwoInv of %d and %d = %v, want both 0", a, b, got)
			}
		}
	}
}

func TestTwoPowIsTwoMulSoOften(t *testing.T) {
	for _, x := range manyTwos() {
		want := impl.Two{A: 1}
		for n := range 150 {
			if got := impl.TwoPow(x, n); got != want {
				t.Errorf("TwoPow(%v, %d) = %v, want %v", x, n, got, want)
			}
			want = impl.TwoMul(want, x)
		}
	}
}

func TestTwoPowByGreatNumbers(t *testing.T) {
	for i, x := range manyTwos() {
		for _, n := range fieldEdges() {
			if got, want := impl.TwoPow(x, n), wordedTwoPow(x, n); got != want {
				t.Errorf("TwoPow(%v, %d) = %v, want %v", x, n, got, want)
			}
		}
		for _, n := range manyFieldNumbers()[50+i%50 : 60+i%50] {
			if got, want := impl.TwoPow(x, n), wordedTwoPow(x, n); got != want {
				t.Errorf("TwoPow(%v, %d) = %v, want %v", x, n, got, want)
			}
		}
	}
}

func TestTwoPowForms(t *testing.T) {
	for _, form := range []struct {
		x    impl.Two
		n    int
		want impl.Two
	}{
		{impl.Two{B: 1}, 2, impl.Two{A: 12106}},
		{impl.Two{B: 1}, 3, impl.Two{B: 12106}},
		{impl.Two{B: 1}, 4, impl.Two{A: 1}},
		{impl.Two{B: 1}, math.MaxInt, impl.Two{B: 12106}},
		{impl.Two{A: 1, B: 1}, 2, impl.Two{B: 2}},
		{impl.Two{A: 3, B: 4}, 2, impl.Two{A: 12100, B: 24}},
		{impl.Two{A: 3, B: 4}, 1000, impl.Two{A: 4991, B: 6785}},
		{impl.Two{A: 3, B: 4}, math.MaxInt, impl.Two{A: 9181, B: 8060}},
		{impl.Two{A: 12106, B: 12106}, math.MaxInt, impl.Two{A: 7240, B: 4867}},
		{impl.Two{A: math.MaxInt, B: math.MinInt}, 1000, impl.Two{A: 8857, B: 6958}},
		{impl.Two{A: math.MaxInt, B: math.MinInt}, math.MaxInt, impl.Two{A: 5874, B: 5792}},
		{impl.Two{A: math.MaxInt}, math.MaxInt, impl.Two{A: 7308}},
		{impl.Two{B: math.MinInt}, math.MaxInt, impl.Two{B: 5953}},
		{impl.Two{}, math.MaxInt, impl.Two{}},
		{impl.Two{A: 12107, B: -12107}, 5, impl.Two{}},
	} {
		if got := impl.TwoPow(form.x, form.n); got != form.want {
			t.Errorf("TwoPow(%v, %d) = %v, want %v", form.x, form.n, got, form.want)
		}
	}
}

func TestTwoPowByTheSizes(t *testing.T) {
	for _, x := range linesOfTwos() {
		if got, want := impl.TwoPow(x, impl.FieldP), impl.TwoTurn(x); got != want {
			t.Errorf("TwoPow(%v, FieldP) = %v, want it turned: %v", x, got, want)
		}
		if got := impl.TwoPow(x, impl.FieldP*impl.FieldP); got != x {
			t.Errorf("TwoPow(%v, FieldP times FieldP) = %v, want it as it is", x, got)
		}
	}
	for _, x := range manyTwos() {
		right := wordedTwoOf(x)
		if got, want := impl.TwoPow(x, impl.FieldP), impl.TwoTurn(right); got != want {
			t.Errorf("TwoPow(%v, FieldP) = %v, want it turned: %v", x, got, want)
		}
		want := impl.Two{A: 1}
		if right == (impl.Two{}) {
			want = impl.Two{}
		}
		if got := impl.TwoPow(x, impl.FieldP*impl.FieldP-1); got != want {
			t.Errorf("TwoPow(%v, FieldP times FieldP - 1) = %v, want %v", x, got, want)
		}
		if got, want := impl.TwoPow(x, impl.FieldP*impl.FieldP-2), impl.TwoInv(x); got != want {
			t.Errorf("TwoPow(%v, FieldP times FieldP - 2) = %v, want its TwoInv %v", x, got, want)
		}
	}
}

func TestTwoPowByNoneAndByOne(t *testing.T) {
	for _, x := range append(linesOfTwos(), manyTwos()...) {
		if got := impl.TwoPow(x, 0); got != (impl.Two{A: 1}) {
			t.Errorf("TwoPow(%v, 0) = %v, want A 1 and B 0", x, got)
		}
		if got, want := impl.TwoPow(x, 1), wordedTwoOf(x); got != want {
			t.Errorf("TwoPow(%v, 1) = %v, want %v", x, got, want)
		}
	}
}

func TestTwoPowByLessThanNone(t *testing.T) {
	for _, x := range manyTwos() {
		for _, n := range []int{-1, -2, -3, -12106, -12107, -12108, -1 << 32, math.MinInt, math.MinInt + 1} {
			if got := impl.TwoPow(x, n); got != (impl.Two{}) {
				t.Errorf("TwoPow(%v, %d) = %v, want both 0", x, n, got)
			}
		}
	}
}
