package tests

import (
	"math"
	"slices"
	"testing"

	"loop.example/g00321/impl"
)

// onePair is what a pair is that says nothing.
func onePair() impl.Two {
	return impl.Two{A: 1}
}

// uprightLine is asked of two points of the curve that are no Zero.
func uprightLine(a impl.Point, b impl.Point) bool {
	return a.X == b.X && (a.Y+b.Y)%12107 == 0
}

// wordedPairLine is the document's line, worked out by numbers of any size.
func wordedPairLine(a impl.Point, b impl.Point, q impl.Point) impl.Two {
	for _, p := range []impl.Point{a, b, q} {
		if p.Zero || !onTheCurve(p) {
			return onePair()
		}
	}
	if uprightLine(a, b) {
		return onePair()
	}
	slope := 0
	if a == b {
		slope = wordedSlope(3*a.X*a.X+1, 2*a.Y)
	} else {
		slope = wordedSlope(b.Y-a.Y, b.X-a.X)
	}
	return impl.Two{A: wordedFieldOf(0 - a.Y - slope*(0-q.X-a.X)), B: q.Y}
}

// wordedMiller goes by the document's steps; the bits of 1009 are written out.
func wordedMiller(p impl.Point, q impl.Point) impl.Two {
	x, place := onePair(), p
	for _, bit := range "111110001" {
		x = wordedTwoMul(wordedTwoMul(x, x), wordedPairLine(place, place, q))
		place = wordedPointSum(place, place)
		if bit == '1' {
			x = wordedTwoMul(x, wordedPairLine(place, p, q))
			place = wordedPointSum(place, p)
		}
	}
	return x
}

// wordedPointSum is Zero when one of both is wrong.
func wordedPointSum(p impl.Point, q impl.Point) impl.Point {
	if !onTheCurve(p) || !onTheCurve(q) {
		return zeroPoint()
	}
	return wordedPointAdd(p, q)
}

// wordedPairing takes a power alone: x turned round is x to FieldP, and its inverse times that x to FieldP less 1.
func wordedPairing(p impl.Point, q impl.Point) impl.Two {
	return wordedTwoPow(wordedMiller(p, q), (12107-1)*12)
}

// groupOfPoints has at each place Base so often.
func groupOfPoints() []impl.Point {
	list := make([]impl.Point, 1009)
	list[0] = zeroPoint()
	for k := 1; k < len(list); k++ {
		list[k] = wordedPointAdd(list[k-1], at(8445, 859))
	}
	return list
}

// groupOfPairs has at each place the pair of Base and Base to that power.
func groupOfPairs() []impl.Two {
	list := make([]impl.Two, 1009)
	list[0] = onePair()
	for k := 1; k < len(list); k++ {
		list[k] = wordedTwoMul(list[k-1], impl.Two{A: 372, B: 3632})
	}
	return list
}

// strangePoints are on the curve, but not of the group.
func strangePoints() []impl.Point {
	var list []impl.Point
	for _, p := range append(pointEdges(), impl.Point{}, at(12106, 5115), at(12106, 6992), at(11945, 11745)) {
		if onTheCurve(p) && !wordedTimes(1009, p).Zero {
			list = append(list, p)
		}
	}
	return list
}

func wordedTimes(often int, p impl.Point) impl.Point {
	sum := zeroPoint()
	for range often {
		sum = wordedPointAdd(sum, p)
	}
	return sum
}

func checkPairLine(t *testing.T, a impl.Point, b impl.Point, q impl.Point) {
	t.Helper()
	if got, want := impl.PairLine(a, b, q), wordedPairLine(a, b, q); got != want {
		t.Errorf("PairLine(%v, %v, %v) = %v, want %v", a, b, q, got, want)
	}
}

func checkMiller(t *testing.T, p impl.Point, q impl.Point) {
	t.Helper()
	if got, want := impl.Miller(p, q), wordedMiller(p, q); got != want {
		t.Errorf("Miller(%v, %v) = %v, want %v", p, q, got, want)
	}
}

func checkOnePair(t *testing.T, p impl.Point, q impl.Point) {
	t.Helper()
	if got := impl.Pairing(p, q); got != onePair() {
		t.Errorf("Pairing(%v, %v) = %v, want A 1 and B 0", p, q, got)
	}
	if got := impl.Pairing(q, p); got != onePair() {
		t.Errorf("Pairing(%v, %v) = %v, want A 1 and B 0", q, p, got)
	}
}

// The numbers were worked out apart from the program.
func TestPairLineForms(t *testing.T) {
	base, twice := at(8445, 859), at(8558, 1817)
	for _, form := range []struct {
		a, b, q impl.Point
		want    impl.Two
	}{
		{base, base, base, impl.Two{A: 1050, B: 859}}, {base, twice, base, impl.Two{A: 584, B: 859}}, {twice, base, base, impl.Two{A: 584, B: 859}},
		{twice, base, at(11077, 2618), impl.Two{A: 3398, B: 2618}}, {twice, twice, at(974, 5050), impl.Two{A: 2895, B: 5050}},
		{at(3, 2453), at(5, 1269), at(2, 9128), impl.Two{A: 6694, B: 9128}}, {at(12106, 5115), at(12106, 5115), at(2, 2979), impl.Two{A: 1877, B: 2979}},
		{at(2, 2979), at(2, 2979), at(12106, 5115), impl.Two{A: 10459, B: 5115}},
		{at(2, 2979), at(2, 2979), at(0, 0), impl.Two{A: 11790}}, {at(2, 2979), base, at(0, 0), impl.Two{A: 11614}}, {base, base, at(0, 0), impl.Two{A: 6149}},
		{at(0, 0), at(2, 2979), at(2, 2979), impl.Two{A: 2979, B: 2979}}, {at(2, 2979), at(0, 0), at(2, 2979), impl.Two{A: 2979, B: 2979}},
		{at(0, 0), base, base, impl.Two{A: 859, B: 859}}, {base, at(0, 0), base, impl.Two{A: 859, B: 859}}, {at(12106, 5115), at(0, 0), at(0, 0), impl.Two{}},
	} {
		if got := impl.PairLine(form.a, form.b, form.q); got != form.want {
			t.Errorf("PairLine(%v, %v, %v) = %v, want %v", form.a, form.b, form.q, got, form.want)
		}
	}
}

func TestPairLineOfEdges(t *testing.T) {
	list := pointEdges()
	for _, a := range list {
		for _, b := range list {
			for _, q := range list {
				checkPairLine(t, a, b, q)
			}
		}
	}
}

func TestPairLineOfEveryPoint(t *testing.T) {
	base := impl.Base()
	for _, p := range everyPoint() {
		checkPairLine(t, p, p, base)
		checkPairLine(t, p, p, p)
		checkPairLine(t, p, base, at(2, 2979))
		checkPairLine(t, base, p, at(2, 2979))
		checkPairLine(t, base, base, p)
		checkPairLine(t, base, at(3, 2453), p)
		checkPairLine(t, p, impl.PointNeg(p), base)
	}
}

// A line is the same from each two of the three points that are on it.
func TestPairLineIsOneLine(t *testing.T) {
	list := pointEdges()
	for _, a := range list {
		for _, b := range list {
			third := impl.PointNeg(impl.PointAdd(a, b))
			for _, q := range list {
				line := impl.PairLine(a, b, q)
				if got := impl.PairLine(b, a, q); got != line {
					t.Errorf("PairLine(%v, %v, %v) = %v, the other way round %v", a, b, q, line, got)
				}
				if third.Zero || a.Zero || b.Zero || uprightLine(a, third) {
					continue
				}
				if got := impl.PairLine(a, third, q); got != line {
					t.Errorf("PairLine(%v, %v, %v) = %v, by its third point %v", a, b, q, line, got)
				}
			}
		}
	}
}

func TestPairLineThatIsUpright(t *testing.T) {
	list := pointEdges()
	for _, a := range list {
		for _, q := range list {
			if got := impl.PairLine(a, impl.PointNeg(a), q); got != onePair() {
				t.Errorf("PairLine of %v and its PointNeg at %v is %v, want A 1 and B 0", a, q, got)
			}
		}
	}
	for _, q := range append(list, wrongPoints()...) {
		if got := impl.PairLine(impl.Point{}, impl.Point{}, q); got != onePair() {
			t.Errorf("PairLine of X 0 and Y 0 with itself at %v is %v, want A 1 and B 0", q, got)
		}
	}
}

func TestPairLineWithZero(t *testing.T) {
	list := append(pointEdges(), wrongPoints()...)
	for _, p := range list {
		for _, q := range list {
			for place, got := range []impl.Two{impl.PairLine(zeroPoint(), p, q), impl.PairLine(p, zeroPoint(), q), impl.PairLine(p, q, zeroPoint())} {
				if got != onePair() {
					t.Errorf("PairLine of %v and %v with Zero at place %d is %v, want A 1 and B 0", p, q, place, got)
				}
			}
		}
	}
}

func TestPairLineOfWrongPoints(t *testing.T) {
	list := append(pointEdges(), wrongPoints()...)
	for _, bad := range wrongPoints() {
		for _, p := range list {
			for _, q := range []impl.Point{p, bad, impl.Base(), at(2, 2979), at(0, 0), zeroPoint()} {
				for place, got := range []impl.Two{impl.PairLine(bad, p, q), impl.PairLine(p, bad, q), impl.PairLine(p, q, bad)} {
					if got != onePair() {
						t.Errorf("PairLine of %v and %v with %v at place %d is %v, want A 1 and B 0", p, q, bad, place, got)
					}
				}
			}
		}
	}
}

// The numbers were worked out apart from the program.
func TestMillerForms(t *testing.T) {
	base, quarter := at(8445, 859), at(12106, 5115)
	for _, form := range []struct {
		p, q impl.Point
		want impl.Two
	}{
		{base, base, impl.Two{A: 2517, B: 8431}}, {at(8558, 1817), base, impl.Two{A: 2416, B: 5060}}, {base, at(8558, 1817), impl.Two{A: 4171, B: 11125}},
		{at(11077, 2618), at(974, 5050), impl.Two{A: 5896, B: 6019}}, {at(8445, 11248), base, impl.Two{A: 9590, B: 8431}}, {base, at(8445, 11248), impl.Two{A: 2517, B: 3676}},
		{at(2, 2979), base, impl.Two{A: 4264, B: 7181}}, {base, at(2, 2979), impl.Two{A: 5782, B: 11533}}, {at(2, 2979), at(2, 2979), impl.Two{A: 1791, B: 9551}},
		{at(0, 0), base, onePair()}, {base, at(0, 0), impl.Two{A: 6813}}, {at(0, 0), at(0, 0), onePair()}, {at(2, 2979), at(0, 0), impl.Two{A: 11890}}, {at(0, 0), at(2, 2979), onePair()},
		{quarter, base, impl.Two{A: 3660, B: 8627}}, {base, quarter, impl.Two{A: 728, B: 6212}}, {quarter, at(0, 0), impl.Two{}},
		{at(11965, 12030), at(2, 2979), impl.Two{A: 6711, B: 2948}}, {at(6532, 438), at(2, 2979), impl.Two{A: 5783, B: 8641}}, {at(12106, 6992), at(2, 2979), impl.Two{A: 3155, B: 4758}},
		{at(1885, 6128), at(2, 2979), impl.Two{A: 28, B: 8194}}, {at(357, 8240), at(0, 0), impl.Two{}},
	} {
		if got := impl.Miller(form.p, form.q); got != form.want {
			t.Errorf("Miller(%v, %v) = %v, want %v", form.p, form.q, got, form.want)
		}
	}
}

func TestMillerByTheSteps(t *testing.T) {
	list := pointEdges()
	for _, p := range list {
		for _, q := range list {
			checkMiller(t, p, q)
		}
	}
	for place, p := range roundOfPoints() {
		if place%5 == 0 || place%1009 == 0 {
			checkMiller(t, p, at(2, 2979))
			checkMiller(t, at(3, 2453), p)
			checkMiller(t, p, p)
		}
	}
}

// The same steps, by the program's own parts.
func TestMillerByItsLines(t *testing.T) {
	for _, p := range append(pointEdges(), wrongPoints()...) {
		for _, q := range []impl.Point{impl.Base(), at(2, 2979), at(0, 0), zeroPoint(), at(1, 1)} {
			want, place := onePair(), p
			for _, bit := range "111110001" {
				want = impl.TwoMul(impl.TwoMul(want, want), impl.PairLine(place, place, q))
				place = impl.PointAdd(place, place)
				if bit == '1' {
					want = impl.TwoMul(want, impl.PairLine(place, p, q))
					place = impl.PointAdd(place, p)
				}
			}
			if got := impl.Miller(p, q); got != want {
				t.Errorf("Miller(%v, %v) = %v, want %v", p, q, got, want)
			}
		}
	}
}

func TestMillerOfZeroAndOfWrongPoints(t *testing.T) {
	others := append(pointEdges(), at(1, 1))
	for _, bad := range append(wrongPoints(), zeroPoint()) {
		for _, p := range append(others, bad) {
			if got := impl.Miller(bad, p); got != onePair() {
				t.Errorf("Miller(%v, %v) = %v, want A 1 and B 0", bad, p, got)
			}
			if got := impl.Miller(p, bad); got != onePair() {
				t.Errorf("Miller(%v, %v) = %v, want A 1 and B 0", p, bad, got)
			}
		}
	}
}

// The numbers were worked out apart from the program.
func TestPairingForms(t *testing.T) {
	base := at(8445, 859)
	for _, form := range []struct {
		p, q impl.Point
		want impl.Two
	}{
		{base, base, impl.Two{A: 372, B: 3632}}, {base, at(8558, 1817), impl.Two{A: 10413, B: 2347}}, {at(8558, 1817), base, impl.Two{A: 10413, B: 2347}},
		{at(8558, 1817), at(8558, 1817), impl.Two{A: 553, B: 2663}}, {at(11077, 2618), at(974, 5050), impl.Two{A: 1021, B: 503}}, {at(974, 5050), at(11077, 2618), impl.Two{A: 1021, B: 503}},
		{at(9833, 6767), at(11327, 2132), impl.Two{A: 3795, B: 597}}, {at(8445, 11248), base, impl.Two{A: 372, B: 8475}}, {base, at(8445, 11248), impl.Two{A: 372, B: 8475}},
		{at(8445, 11248), at(8445, 11248), impl.Two{A: 372, B: 3632}}, {at(11327, 2132), at(11327, 9975), impl.Two{A: 8397, B: 4494}}, {at(7244, 3323), at(9104, 4721), impl.Two{A: 372, B: 3632}},
	} {
		if got := impl.Pairing(form.p, form.q); got != form.want {
			t.Errorf("Pairing(%v, %v) = %v, want %v", form.p, form.q, got, form.want)
		}
	}
}

// Each of the group with some of it, against the powers of one pair.
func TestPairingOfTheWholeGroup(t *testing.T) {
	points, pairs := groupOfPoints(), groupOfPairs()
	for i, p := range points {
		for _, j := range []int{0, 1, 2, 3, 7, 128, 504, 505, 673, 997, 1007, 1008, i} {
			want := pairs[i*j%1009]
			if got := impl.Pairing(p, points[j]); got != want || !impl.TwoOk(got) {
				t.Errorf("Pairing of %d and %d times Base = %v, want %v", i, j, got, want)
			}
			if got := impl.Pairing(points[j], p); got != want {
				t.Errorf("Pairing of %d and %d times Base = %v, want %v", j, i, got, want)
			}
		}
	}
}

func TestPairingByTheSteps(t *testing.T) {
	points := groupOfPoints()
	for i := 1; i < len(points); i += 19 {
		for j := 1; j < len(points); j += 83 {
			want := wordedPairing(points[i], points[j])
			if got := impl.Pairing(points[i], points[j]); got != want {
				t.Errorf("Pairing of %d and %d times Base = %v, want %v", i, j, got, want)
			}
			x := impl.Miller(points[i], points[j])
			if got := impl.TwoPow(impl.TwoMul(impl.TwoTurn(x), impl.TwoInv(x)), impl.Cofactor); got != want {
				t.Errorf("of Miller of %d and %d times Base comes %v, want %v", i, j, got, want)
			}
		}
	}
}

// The promise: so often and so often is as often as both together.
func TestPairingOfNumbersOfAnySize(t *testing.T) {
	numbers := append(scalarEdges(), scatteredScalars(17, 24)...)
	numbers = append(numbers, 2, 3, 5, 504, 12107, 12108, 12109, -12107, -12108, -12109, math.MaxInt, math.MinInt)
	base := impl.Base()
	pair := impl.Pairing(base, base)
	for _, i := range numbers {
		for _, j := range numbers {
			want := impl.TwoPow(pair, impl.ScMul(i, j))
			if got := impl.Pairing(impl.PointTimes(i, base), impl.PointTimes(j, base)); got != want {
				t.Errorf("Pairing of %d times Base and %d times Base = %v, want %v", i, j, got, want)
			}
		}
	}
}

func TestPairingOfSums(t *testing.T) {
	points := groupOfPoints()
	some := []impl.Point{points[0], points[1], points[2], points[36], points[504], points[505], points[877], points[1007], points[1008]}
	for _, p := range some {
		for _, q := range some {
			sum := impl.PointAdd(p, q)
			for _, r := range some {
				want := impl.TwoMul(impl.Pairing(p, r), impl.Pairing(q, r))
				if got := impl.Pairing(sum, r); got != want {
					t.Errorf("Pairing of %v and %v together with %v = %v, want %v", p, q, r, got, want)
				}
				want = impl.TwoMul(impl.Pairing(r, p), impl.Pairing(r, q))
				if got := impl.Pairing(r, sum); got != want {
					t.Errorf("Pairing of %v with %v and %v together = %v, want %v", r, p, q, got, want)
				}
			}
		}
	}
}

func TestPairingSaysSomething(t *testing.T) {
	points := groupOfPoints()
	for i := 1; i < len(points); i++ {
		for _, j := range []int{1, i, 1009 - i, 640} {
			got := impl.Pairing(points[i], points[j])
			if got == onePair() || wordedTwoPow(got, 1009) != onePair() || impl.TwoPow(got, impl.OrderR) != onePair() {
				t.Errorf("Pairing of %d and %d times Base = %v, OrderR as often %v", i, j, got, wordedTwoPow(got, 1009))
			}
			if other := impl.Pairing(impl.PointNeg(points[i]), points[j]); other != impl.TwoInv(got) || other != impl.TwoTurn(got) {
				t.Errorf("Pairing of %d and %d times Base = %v, with PointNeg %v", i, j, got, other)
			}
		}
	}
}

func TestPairingWithZero(t *testing.T) {
	checkOnePair(t, zeroPoint(), zeroPoint())
	for _, p := range append(groupOfPoints(), append(pointEdges(), wrongPoints()...)...) {
		checkOnePair(t, zeroPoint(), p)
	}
}

// Every point of the curve that is not of the group, X 0 and Y 0 among them, in each place.
func TestPairingOutsideTheGroup(t *testing.T) {
	for place, p := range roundOfPoints() {
		if place%12 != 0 {
			checkOnePair(t, p, impl.Base())
		}
	}
	strange := strangePoints()
	if !slices.Contains(strange, impl.Point{}) || len(strange) < 20 {
		t.Fatalf("few points are outside the group: %v", strange)
	}
	for _, p := range strange {
		for _, q := range append(strange, groupOfPoints()[:30]...) {
			checkOnePair(t, p, q)
		}
	}
}

func TestPairingOfWrongPoints(t *testing.T) {
	others := append(pointEdges(), wrongPoints()...)
	for _, bad := range wrongPoints() {
		for _, p := range others {
			checkOnePair(t, bad, p)
		}
	}
}

// pairLists has points of the group: Base as often as the numbers say.
func pairLists(first []int, second []int) ([]impl.Point, []impl.Point) {
	points := groupOfPoints()
	var a, b []impl.Point
	for _, often := range first {
		a = append(a, points[wordedScalarOf(often)])
	}
	for _, often := range second {
		b = append(b, points[wordedScalarOf(often)])
	}
	return a, b
}

func checkPairsRight(t *testing.T, first []int, second []int, want bool) {
	t.Helper()
	a, b := pairLists(first, second)
	if got := impl.PairsRight(a, b); got != want {
		t.Errorf("PairsRight of Base %v and %v times = %v", first, second, got)
	}
}

func TestPairsRightOfOpposites(t *testing.T) {
	points := groupOfPoints()
	for k, p := range points {
		q := points[k*7%1009]
		if !impl.PairsRight([]impl.Point{p, impl.PointNeg(p)}, []impl.Point{q, q}) || !impl.PairsRight([]impl.Point{q, q}, []impl.Point{impl.PointNeg(p), p}) {
			t.Errorf("PairsRight of %v and its PointNeg beside %v is false", p, q)
		}
		if got := impl.PairsRight([]impl.Point{p, p}, []impl.Point{q, q}); got != (k == 0) {
			t.Errorf("PairsRight of %v twice beside %v is %v", p, q, got)
		}
		if got := impl.PairsRight([]impl.Point{p}, []impl.Point{q}); got != (k == 0) {
			t.Errorf("PairsRight of %v beside %v is %v", p, q, got)
		}
	}
}

func TestPairsRightForms(t *testing.T) {
	checkPairsRight(t, nil, nil, true)
	checkPairsRight(t, []int{0}, []int{0}, true)
	checkPairsRight(t, []int{0}, []int{5}, true)
	checkPairsRight(t, []int{5}, []int{0}, true)
	checkPairsRight(t, []int{1}, []int{1}, false)
	checkPairsRight(t, []int{1}, []int{1008}, false)
	checkPairsRight(t, []int{3, -1}, []int{4, 12}, true)
	checkPairsRight(t, []int{3, -1}, []int{4, 11}, false)
	checkPairsRight(t, []int{3, 1}, []int{4, 12}, false)
	checkPairsRight(t, []int{3, 0, -1}, []int{4, 9, 12}, true)
	checkPairsRight(t, []int{3, 9, 0, -1}, []int{4, 0, 0, 12}, true)
	checkPairsRight(t, []int{0, 9, 0, -1}, []int{4, 0, 0, 12}, false)
	checkPairsRight(t, []int{2, 5, -1}, []int{3, 7, 41}, true)
	checkPairsRight(t, []int{2, 5, 7}, []int{3, 7, 41}, false)
	checkPairsRight(t, []int{2, 2, -4}, []int{5, 5, 5}, true)
	checkPairsRight(t, []int{504, 1}, []int{2, 1}, true)
	checkPairsRight(t, []int{504, 1}, []int{1, 2}, false)
}

// Numbers scattered, and one more pair that makes it right, or misses that by one.
func TestPairsRightOfManyPairs(t *testing.T) {
	for size := range 14 {
		first, second := scatteredScalars(uint64(size)*31+5, size), scatteredScalars(uint64(size)*57+11, size)
		sum := wordedDot(first, second)
		checkPairsRight(t, first, second, sum == 0)
		first = append(first, sum)
		checkPairsRight(t, first, append(slices.Clone(second), -1), true)
		checkPairsRight(t, first, append(slices.Clone(second), 1), wordedScalarOf(2*sum) == 0)
		checkPairsRight(t, append(first, 1), append(slices.Clone(second), -1, 1), false)
		checkPairsRight(t, append(first, 1), append(slices.Clone(second), -1, 0), true)
	}
	first, second := scatteredScalars(3, 400), scatteredScalars(4, 400)
	first, second = append(first, wordedDot(first, second)), append(second, -1)
	checkPairsRight(t, first, second, true)
	first[200]++
	checkPairsRight(t, first, second, wordedScalarOf(second[200]) == 0)
}

func TestPairsRightOfOneListTwice(t *testing.T) {
	// 1009 is the sum of the squares of 15 and 28.
	list, _ := pairLists([]int{15, 28}, nil)
	if !impl.PairsRight(list, list) {
		t.Error("PairsRight of one list twice, 15 and 28 times Base, is false")
	}
	if impl.PairsRight(list[:1], list[:1]) || impl.PairsRight(list[:1], list[1:]) {
		t.Error("PairsRight of pieces of one list is true")
	}
}

func TestPairsRightOfNone(t *testing.T) {
	for _, a := range [][]impl.Point{nil, {}, make([]impl.Point, 0, 5)} {
		for _, b := range [][]impl.Point{nil, {}, make([]impl.Point, 0, 5)} {
			if !impl.PairsRight(a, b) {
				t.Errorf("PairsRight(%#v, %#v) = false", a, b)
			}
		}
		for _, b := range [][]impl.Point{{zeroPoint()}, {impl.Base()}, {zeroPoint(), zeroPoint()}, {{}}} {
			if impl.PairsRight(a, b) || impl.PairsRight(b, a) {
				t.Errorf("PairsRight of none and %v is true", b)
			}
		}
	}
}

func TestPairsRightOfUnlikeLengths(t *testing.T) {
	whole := slices.Repeat([]impl.Point{zeroPoint()}, 9)
	for i := range whole {
		for j := range whole {
			if got := impl.PairsRight(whole[:i], whole[:j]); got != (i == j) {
				t.Errorf("PairsRight of %d times Zero and %d times = %v", i, j, got)
			}
		}
	}
	base, other := impl.Base(), impl.PointNeg(impl.Base())
	right, beside := []impl.Point{base, other}, []impl.Point{base, base}
	for _, more := range []impl.Point{zeroPoint(), base, {}, at(1, 1)} {
		if impl.PairsRight(append(right, more), beside) || impl.PairsRight(right, append(beside, more)) {
			t.Errorf("PairsRight with %v more in one list is true", more)
		}
	}
}

// Each wrong point and each outside the group stands beside one that would make its pair 1, at each place of either list.
func TestPairsRightWithAWrongPoint(t *testing.T) {
	a, b := pairLists([]int{3, 0, -1, 0, 5, 5}, []int{4, 9, 12, 0, 1, -1})
	if !impl.PairsRight(a, b) {
		t.Fatal("the lists are not right")
	}
	for _, bad := range append(wrongPoints(), strangePoints()...) {
		for _, beside := range []impl.Point{zeroPoint(), impl.Base(), bad} {
			for place := range len(a) + 1 {
				first, second := slices.Insert(slices.Clone(a), place, bad), slices.Insert(slices.Clone(b), place, beside)
				if impl.PairsRight(first, second) || impl.PairsRight(second, first) {
					t.Errorf("PairsRight with %v beside %v at place %d is true", bad, beside, place)
				}
			}
			if impl.PairsRight([]impl.Point{bad}, []impl.Point{beside}) || impl.PairsRight([]impl.Point{beside}, []impl.Point{bad}) {
				t.Errorf("PairsRight of %v beside %v alone is true", bad, beside)
			}
		}
	}
}

// roomyPoints is the list with room behind it, which holds a point that nobody may touch.
func roomyPoints(list []impl.Point) []impl.Point {
	room := append(slices.Clone(list), at(-7, -8), at(-9, -10))
	return room[:len(list)]
}

func TestPairsRightChangesNothing(t *testing.T) {
	right, beside := pairLists([]int{3, 0, -1, 8}, []int{4, 9, 12, 0})
	for _, lists := range [][2][]impl.Point{
		{right, beside}, {right, right}, {right, beside[:2]}, {wrongPoints(), wrongPoints()}, {strangePoints(), strangePoints()}, {nil, right}, {nil, nil},
	} {
		a, b := roomyPoints(lists[0]), roomyPoints(lists[1])
		first := impl.PairsRight(a, b)
		if second := impl.PairsRight(a, b); second != first {
			t.Errorf("PairsRight(%v, %v) = %v, and then %v", a, b, first, second)
		}
		for i, list := range [][]impl.Point{a, b} {
			if !slices.Equal(list, lists[i]) || !slices.Equal(list[len(list):len(list)+2], []impl.Point{at(-7, -8), at(-9, -10)}) {
				t.Errorf("PairsRight left %v of %v", list[:len(list)+2], lists[i])
			}
		}
	}
}
