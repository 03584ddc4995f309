package tests

import (
	"math"
	"math/big"
	"slices"
	"testing"

	"loop.example/g00321/impl"
)

// allPoints is how many points the curve has, Zero among them.
const allPoints = 1009 * 12

func zeroPoint() impl.Point {
	return impl.Point{Zero: true}
}

func at(x int, y int) impl.Point {
	return impl.Point{X: x, Y: y}
}

// wordedSlope is a quotient in the field, by numbers of any size.
func wordedSlope(over int, under int) int {
	inverse := new(big.Int).ModInverse(big.NewInt(int64(wordedFieldOf(under))), big.NewInt(12107))
	return wordedField(inverse.Mul(inverse, big.NewInt(int64(over))))
}

// wordedPointAdd puts two right points together by the line through them.
func wordedPointAdd(p impl.Point, q impl.Point) impl.Point {
	if p.Zero {
		return q
	}
	if q.Zero {
		return p
	}
	if p.X == q.X && (p.Y != q.Y || p.Y == 0) {
		return zeroPoint()
	}
	slope := 0
	if p.X == q.X {
		slope = wordedSlope(3*p.X*p.X+1, 2*p.Y)
	} else {
		slope = wordedSlope(q.Y-p.Y, q.X-p.X)
	}
	x := wordedFieldOf(slope*slope - p.X - q.X)
	return at(x, wordedFieldOf(slope*(p.X-x)-p.Y))
}

// everyPoint holds Zero and all points of the curve, found by trying every X.
func everyPoint() []impl.Point {
	list := []impl.Point{zeroPoint()}
	for x := range 12107 {
		list = append(list, pointsAt(x)...)
	}
	return list
}

// pointsAt are those of the curve with this X: none, one or two.
func pointsAt(x int) []impl.Point {
	y := lowRoots[wordedFieldOf(x*x%12107*x+x)]
	if y < 0 {
		return nil
	}
	if y == 0 {
		return []impl.Point{at(x, 0)}
	}
	return []impl.Point{at(x, y), at(x, 12107-y)}
}

var lowRoots = leastRoots()

// roundOfPoints holds Zero, a point that makes all others, and what it makes so often, at the place of that number.
func roundOfPoints() []impl.Point {
	list := []impl.Point{zeroPoint()}
	one := at(2, 2979)
	for p := one; !p.Zero; p = wordedPointAdd(p, one) {
		list = append(list, p)
	}
	return list
}

// pointEdges are Zero, the point whose Y is 0, those near both ends of X, and such as are Zero after few or many times.
func pointEdges() []impl.Point {
	list := []impl.Point{zeroPoint(), at(0, 0), impl.Base(), impl.PointNeg(impl.Base())}
	for _, x := range []int{2, 3, 5, 6, 255, 511, 1022, 12103, 12106, 8558, 7244} {
		list = append(list, pointsAt(x)...)
	}
	round := roundOfPoints()
	for _, often := range []int{2, 3, 4, 6, 12, 1009, 2018, 3027, 4036, 6054} {
		list = append(list, round[allPoints/often], round[allPoints-allPoints/often])
	}
	return list
}

// wrongPoints are none of the curve; many of them would be, if they were brought into the field or their flag were let go.
func wrongPoints() []impl.Point {
	list := []impl.Point{
		{X: 1, Zero: true}, {Y: 1, Zero: true}, {X: -1, Zero: true}, {X: 12107, Zero: true}, {Y: 12107, Zero: true},
		{X: 8445, Y: 859, Zero: true}, {X: math.MinInt, Y: math.MaxInt, Zero: true},
		at(1, 1), at(0, 1), at(0, 12106), at(1, 0), at(12106, 0), at(12106, 12106), at(8445, 858), at(8445, 860), at(8446, 859), at(859, 8445), at(2, 2), at(4, 0),
		at(math.MaxInt, math.MaxInt), at(math.MinInt, math.MinInt), at(math.MinInt, 0), at(0, math.MinInt), at(math.MaxInt, 0), at(0, math.MaxInt),
	}
	for _, p := range []impl.Point{at(0, 0), at(8445, 859), at(8445, 11248), at(12106, 5115), at(2, 2979)} {
		for _, off := range []int{12107, -12107, 24214, -24214, 12107 << 32, -12107 << 32} {
			list = append(list, at(p.X+off, p.Y), at(p.X, p.Y+off), at(p.X+off, p.Y+off), at(p.X+off, p.Y-off))
		}
	}
	return list
}

func onTheCurve(p impl.Point) bool {
	if p.Zero {
		return p == zeroPoint()
	}
	return p.X >= 0 && p.X < 12107 && p.Y >= 0 && p.Y < 12107 && (p.Y*p.Y-p.X*p.X%12107*p.X-p.X)%12107 == 0
}

func TestPointNumbers(t *testing.T) {
	if impl.Cofactor != 12 {
		t.Errorf("Cofactor = %d, want 12", impl.Cofactor)
	}
	if got := len(everyPoint()); got != impl.OrderR*impl.Cofactor {
		t.Errorf("the curve has %d points, want OrderR times Cofactor, %d", got, impl.OrderR*impl.Cofactor)
	}
	if got := len(roundOfPoints()); got != allPoints {
		t.Errorf("the round has %d points, want %d", got, allPoints)
	}
}

func TestPointOkOfEveryPoint(t *testing.T) {
	for _, p := range everyPoint() {
		if !impl.PointOk(p) {
			t.Errorf("PointOk(%v) = false", p)
		}
	}
}

// For each X no other Y is right than those of its points.
func TestPointOkOfOtherPlaces(t *testing.T) {
	for x := range 12107 {
		right := pointsAt(x)
		for _, y := range []int{0, 1, 2, x, 12106 - x, 6053, 6054, 12105, 12106} {
			if got, want := impl.PointOk(at(x, y)), slices.Contains(right, at(x, y)); got != want {
				t.Errorf("PointOk(X %d, Y %d) = %v", x, y, got)
			}
		}
		for _, p := range right {
			for _, near := range []impl.Point{at(p.X, p.Y+1), at(p.X, p.Y-1), {X: p.X, Y: p.Y, Zero: p.X != 0}, at(p.X, p.Y+12107), at(p.X, p.Y-12107), at(p.X+12107, p.Y), at(p.X-12107, p.Y)} {
				if got, want := impl.PointOk(near), onTheCurve(near); got != want {
					t.Errorf("PointOk(%v) = %v", near, got)
				}
			}
		}
	}
	for _, x := range []int{0, 1, 2, 4, 8445, 12105, 12106} {
		for y := -3; y < 12110; y++ {
			if got, want := impl.PointOk(at(x, y)), slices.Contains(pointsAt(x), at(x, y)); got != want {
				t.Errorf("PointOk(X %d, Y %d) = %v", x, y, got)
			}
		}
	}
}

// The zero value of Point is on the curve, but it is not Zero.
func TestPointsWithoutXAndY(t *testing.T) {
	nought := impl.Point{}
	if !impl.PointOk(nought) || !impl.PointOk(zeroPoint()) {
		t.Errorf("PointOk of X 0 and Y 0 is %v, of Zero %v", impl.PointOk(nought), impl.PointOk(zeroPoint()))
	}
	if got := impl.PointAdd(nought, nought); got != zeroPoint() {
		t.Errorf("X 0 and Y 0 with itself makes %v, want Zero", got)
	}
	if got := impl.PointAdd(nought, zeroPoint()); got != nought {
		t.Errorf("X 0 and Y 0 with Zero makes %v", got)
	}
	if got := impl.PointNeg(nought); got != nought {
		t.Errorf("PointNeg of X 0 and Y 0 is %v", got)
	}
	for k := -9; k < 10; k++ {
		want := zeroPoint()
		if k%2 != 0 {
			want = nought
		}
		if got := impl.PointTimes(k, nought); got != want {
			t.Errorf("%d times X 0 and Y 0 is %v, want %v", k, got, want)
		}
	}
	if impl.InGroup(nought) || !impl.InGroup(zeroPoint()) {
		t.Errorf("InGroup of X 0 and Y 0 is %v, of Zero %v", impl.InGroup(nought), impl.InGroup(zeroPoint()))
	}
	for _, p := range everyPoint() {
		want := wordedPointAdd(p, nought)
		if got := impl.PointAdd(p, nought); got != want {
			t.Errorf("PointAdd(%v, X 0 and Y 0) = %v, want %v", p, got, want)
		}
		if got := impl.PointAdd(nought, p); got != want {
			t.Errorf("PointAdd(X 0 and Y 0, %v) = %v, want %v", p, got, want)
		}
	}
}

func TestWrongPoints(t *testing.T) {
	for _, p := range wrongPoints() {
		if impl.PointOk(p) {
			t.Errorf("PointOk(%v) = true", p)
		}
		if impl.InGroup(p) {
			t.Errorf("InGroup(%v) = true", p)
		}
		if got := impl.PointText(p); got != "" {
			t.Errorf("PointText(%v) = %q, want an empty one", p, got)
		}
		for _, k := range []int{0, 1, -1, 2, -2, 3, 12, 1009, 12108, 12109, math.MaxInt, math.MinInt} {
			if got := impl.PointTimes(k, p); got != zeroPoint() {
				t.Errorf("PointTimes(%d, %v) = %v, want Zero", k, p, got)
			}
		}
		for _, q := range append(pointEdges(), p, impl.PointNeg(p)) {
			if got := impl.PointAdd(p, q); got != zeroPoint() {
				t.Errorf("PointAdd(%v, %v) = %v, want Zero", p, q, got)
			}
			if got := impl.PointAdd(q, p); got != zeroPoint() {
				t.Errorf("PointAdd(%v, %v) = %v, want Zero", q, p, got)
			}
		}
	}
}

func TestWrongPointsWithOneAnother(t *testing.T) {
	for _, p := range wrongPoints() {
		for _, q := range wrongPoints() {
			if got := impl.PointAdd(p, q); got != zeroPoint() {
				t.Errorf("PointAdd(%v, %v) = %v, want Zero", p, q, got)
			}
		}
	}
}

func TestPointNegOfEveryPoint(t *testing.T) {
	for _, p := range everyPoint() {
		other := impl.PointNeg(p)
		if !onTheCurve(other) || other.X != p.X || other.Zero != p.Zero || (other.Y+p.Y)%12107 != 0 {
			t.Errorf("PointNeg(%v) = %v", p, other)
		}
		if got := impl.PointNeg(other); got != p {
			t.Errorf("PointNeg of PointNeg(%v) = %v", p, got)
		}
		if got := impl.PointAdd(p, other); got != zeroPoint() {
			t.Errorf("%v and its PointNeg make %v, want Zero", p, got)
		}
		if got := impl.PointAdd(other, p); got != zeroPoint() {
			t.Errorf("PointNeg of %v and it make %v, want Zero", p, got)
		}
	}
}

// PointNeg is told of every point, right or not: X stays as it is, Y is FpSub'ed; what is Zero becomes Zero and nothing else.
func TestPointNegOfWrongPoints(t *testing.T) {
	for _, p := range wrongPoints() {
		want := zeroPoint()
		if !p.Zero {
			want = at(p.X, wordedField(new(big.Int).Neg(big.NewInt(int64(p.Y)))))
		}
		if got := impl.PointNeg(p); got != want {
			t.Errorf("PointNeg(%v) = %v, want %v", p, got, want)
		}
	}
	for _, form := range [][2]impl.Point{
		{at(-5, -3), at(-5, 3)}, {at(12107, 12107), at(12107, 0)}, {at(1, 1), at(1, 12106)}, {at(8445, 859), at(8445, 11248)}, {at(0, 0), at(0, 0)},
		{{X: 5, Y: 7, Zero: true}, {Zero: true}}, {{Zero: true}, {Zero: true}},
	} {
		if got := impl.PointNeg(form[0]); got != form[1] {
			t.Errorf("PointNeg(%v) = %v, want %v", form[0], got, form[1])
		}
	}
}

func TestPointAddByTheLine(t *testing.T) {
	edges := pointEdges()
	for _, p := range everyPoint() {
		for _, q := range edges {
			want := wordedPointAdd(p, q)
			if got := impl.PointAdd(p, q); got != want || !onTheCurve(got) {
				t.Errorf("PointAdd(%v, %v) = %v, want %v", p, q, got, want)
			}
			if got := impl.PointAdd(q, p); got != want {
				t.Errorf("PointAdd(%v, %v) = %v, want %v", q, p, got, want)
			}
		}
		if got, want := impl.PointAdd(p, p), wordedPointAdd(p, p); got != want {
			t.Errorf("PointAdd(%v, %v) = %v, want %v", p, p, got, want)
		}
		if got := impl.PointAdd(p, zeroPoint()); got != p {
			t.Errorf("PointAdd(%v, Zero) = %v", p, got)
		}
		if got := impl.PointAdd(zeroPoint(), p); got != p {
			t.Errorf("PointAdd(Zero, %v) = %v", p, got)
		}
	}
}

// Two points of the round make the one whose place is that of both together.
func TestPointAddRoundTheCurve(t *testing.T) {
	round := roundOfPoints()
	for i := range round {
		for step := 1; step < allPoints; step += 173 {
			if got, want := impl.PointAdd(round[i], round[step]), round[(i+step)%allPoints]; got != want {
				t.Errorf("PointAdd(%v, %v) = %v, want %v", round[i], round[step], got, want)
			}
		}
	}
}

func TestPointAddOfTheWholeGroup(t *testing.T) {
	group := make([]impl.Point, 1009)
	group[0] = zeroPoint()
	for i := 1; i < len(group); i++ {
		group[i] = wordedPointAdd(group[i-1], at(8445, 859))
	}
	for i := range group {
		for j := range group {
			if got, want := impl.PointAdd(group[i], group[j]), group[(i+j)%1009]; got != want {
				t.Errorf("PointAdd(%v, %v) = %v, want %v", group[i], group[j], got, want)
			}
		}
	}
}

func TestPointLaws(t *testing.T) {
	list := pointEdges()
	for _, p := range list {
		for _, q := range list {
			if impl.PointAdd(p, q) != impl.PointAdd(q, p) {
				t.Errorf("%v and %v make other than the other way round", p, q)
			}
			for _, r := range list {
				if impl.PointAdd(impl.PointAdd(p, q), r) != impl.PointAdd(p, impl.PointAdd(q, r)) {
					t.Errorf("sums of %v, %v and %v are not alike", p, q, r)
				}
			}
		}
	}
}

// The points were worked out apart from the program.
func TestPointAddForms(t *testing.T) {
	for _, form := range [][3]impl.Point{
		{at(2, 2979), at(3, 2453), at(10317, 10882)},
		{at(2, 9128), at(5, 1269), at(7394, 8462)},
		{at(2, 2979), at(8445, 859), at(11120, 3541)},
		{at(8445, 859), at(8445, 859), at(8558, 1817)},
		{at(8558, 1817), at(8445, 859), at(7244, 3323)},
		{at(0, 0), at(8445, 859), at(11945, 11745)},
		{at(0, 0), at(2, 2979), at(6054, 2282)},
		{at(0, 0), at(12106, 5115), at(12106, 6992)},
		{at(0, 0), at(0, 0), zeroPoint()},
		{at(12106, 5115), at(12106, 6992), zeroPoint()},
		{at(12106, 5115), at(12106, 5115), at(0, 0)},
		{at(12106, 6992), at(12106, 6992), at(0, 0)},
		{zeroPoint(), at(0, 0), at(0, 0)},
		{zeroPoint(), zeroPoint(), zeroPoint()},
	} {
		if got := impl.PointAdd(form[0], form[1]); got != form[2] {
			t.Errorf("PointAdd(%v, %v) = %v, want %v", form[0], form[1], got, form[2])
		}
		if got := impl.PointAdd(form[1], form[0]); got != form[2] {
			t.Errorf("PointAdd(%v, %v) = %v, want %v", form[1], form[0], got, form[2])
		}
	}
}

func TestPointTimesIsPointAddSoOften(t *testing.T) {
	for _, p := range pointEdges() {
		up, down := zeroPoint(), zeroPoint()
		for k := range 130 {
			if got := impl.PointTimes(k, p); got != up {
				t.Errorf("PointTimes(%d, %v) = %v, want %v", k, p, got, up)
			}
			if got := impl.PointTimes(-k, p); got != down {
				t.Errorf("PointTimes(%d, %v) = %v, want %v", -k, p, got, down)
			}
			up, down = impl.PointAdd(up, p), impl.PointAdd(down, impl.PointNeg(p))
		}
	}
}

// Every number of times of a point that makes all others, and each more or less than that by all points once and often.
func TestPointTimesRoundTheCurve(t *testing.T) {
	round := roundOfPoints()
	far := math.MaxInt/allPoints - 1
	for k, want := range round {
		for _, often := range []int{k, k + allPoints, k - allPoints, k - 2*allPoints, k + far*allPoints, k - far*allPoints} {
			if got := impl.PointTimes(often, at(2, 2979)); got != want {
				t.Errorf("PointTimes(%d, X 2, Y 2979) = %v, want %v", often, got, want)
			}
		}
	}
}

func TestPointTimesOfEveryPoint(t *testing.T) {
	for place, p := range roundOfPoints() {
		for _, form := range []struct {
			k    int
			want impl.Point
		}{
			{0, zeroPoint()}, {1, p}, {-1, impl.PointNeg(p)}, {2, impl.PointAdd(p, p)}, {-2, impl.PointNeg(impl.PointAdd(p, p))},
			{1009 * 12, zeroPoint()}, {-1009 * 12, zeroPoint()}, {1009*12 + 1, p}, {1009*12 - 1, impl.PointNeg(p)}, {-1009*12 - 1, impl.PointNeg(p)}, {-1009*12 + 1, p},
		} {
			if got := impl.PointTimes(form.k, p); got != form.want {
				t.Errorf("PointTimes(%d, %v) = %v, want %v", form.k, p, got, form.want)
			}
		}
		if got := impl.PointTimes(impl.OrderR, p); got.Zero != (place%12 == 0) {
			t.Errorf("PointTimes(OrderR, %v) = %v", p, got)
		}
		if got := impl.PointTimes(impl.Cofactor, p); got.Zero != (place%1009 == 0) || !impl.InGroup(got) {
			t.Errorf("PointTimes(Cofactor, %v) = %v, which is InGroup: %v", p, got, impl.InGroup(got))
		}
	}
}

func TestPointTimesByNumbersOfAnySize(t *testing.T) {
	round := roundOfPoints()
	numbers := append(manyScalars(), 12107, 12108, 12109, -12107, -12108, -12109, math.MaxInt, math.MinInt)
	for _, place := range []int{0, 1, 5, 12, 1009, 2018, 3027, 4036, 6054, 12107} {
		for _, k := range numbers {
			often := new(big.Int).Mul(big.NewInt(int64(k)), big.NewInt(int64(place)))
			want := round[often.Mod(often, big.NewInt(allPoints)).Int64()]
			if got := impl.PointTimes(k, round[place]); got != want {
				t.Errorf("PointTimes(%d, %v) = %v, want %v", k, round[place], got, want)
			}
		}
	}
}

// The points were worked out apart from the program.
func TestPointTimesForms(t *testing.T) {
	for _, form := range []struct {
		k       int
		p, want impl.Point
	}{
		{3, at(8445, 859), at(7244, 3323)}, {4, at(8445, 859), at(174, 11376)}, {5, at(8445, 859), at(11077, 2618)}, {7, at(8445, 859), at(974, 5050)},
		{100, at(8445, 859), at(9833, 6767)}, {504, at(8445, 859), at(11327, 2132)}, {505, at(8445, 859), at(11327, 9975)},
		{1007, at(8445, 859), at(8558, 10290)}, {1008, at(8445, 859), at(8445, 11248)}, {1009, at(8445, 859), zeroPoint()}, {1010, at(8445, 859), at(8445, 859)},
		{-1, at(8445, 859), at(8445, 11248)}, {-2, at(8445, 859), at(8558, 10290)}, {-1008, at(8445, 859), at(8445, 859)},
		{math.MaxInt, at(8445, 859), at(11795, 5290)}, {math.MinInt, at(8445, 859), at(6791, 7822)},
		{2, at(2, 2979), at(3935, 4529)}, {6, at(2, 2979), at(357, 8240)}, {12, at(2, 2979), at(8445, 11248)}, {1009, at(2, 2979), at(11965, 12030)},
		{6054, at(2, 2979), at(0, 0)}, {12107, at(2, 2979), at(2, 9128)}, {-5, at(2, 2979), at(11719, 5670)},
		{math.MaxInt, at(2, 2979), at(3147, 9064)}, {math.MinInt, at(2, 2979), at(11867, 5167)},
		{math.MaxInt, at(0, 0), at(0, 0)}, {math.MinInt, at(0, 0), zeroPoint()}, {math.MaxInt, zeroPoint(), zeroPoint()}, {math.MinInt, zeroPoint(), zeroPoint()},
	} {
		if got := impl.PointTimes(form.k, form.p); got != form.want {
			t.Errorf("PointTimes(%d, %v) = %v, want %v", form.k, form.p, got, form.want)
		}
	}
}

func TestBase(t *testing.T) {
	base := impl.Base()
	if base != at(8445, 859) {
		t.Errorf("Base() = %v, want X 8445, Y 859", base)
	}
	for k := range 1010 {
		if got := impl.PointTimes(k, base); !impl.InGroup(got) || got.Zero != (k%1009 == 0) {
			t.Errorf("%d times Base is %v, which is InGroup: %v", k, got, impl.InGroup(got))
		}
	}
}

func TestInGroupOfEveryPoint(t *testing.T) {
	for place, p := range roundOfPoints() {
		if got, want := impl.InGroup(p), place%12 == 0; got != want {
			t.Errorf("InGroup(%v) = %v", p, got)
		}
	}
}

func TestPointTextOfEveryPoint(t *testing.T) {
	seen := map[string]impl.Point{}
	for _, p := range everyPoint() {
		text := impl.PointText(p)
		want := []byte{0, 0, 0}
		if !p.Zero {
			want = []byte{byte((p.X + 1) >> 8), byte(p.X + 1), byte(p.Y & 1)}
		}
		if text != string(want) {
			t.Errorf("PointText(%v) = %x, want %x", p, text, want)
		}
		if other, twice := seen[text]; twice {
			t.Errorf("%v and %v have the text %x", p, other, text)
		}
		seen[text] = p
		if got, ok := impl.ReadPoint(text); !ok || got != p {
			t.Errorf("ReadPoint(%x) = %v, %v, want %v", text, got, ok, p)
		}
	}
}

// The bytes were worked out apart from the program.
func TestPointTextForms(t *testing.T) {
	for _, form := range []struct {
		p    impl.Point
		text string
	}{
		{zeroPoint(), "\x00\x00\x00"}, {at(0, 0), "\x00\x01\x00"}, {at(8445, 859), "\x20\xfe\x01"}, {at(8445, 11248), "\x20\xfe\x00"},
		{at(12106, 5115), "\x2f\x4b\x01"}, {at(12106, 6992), "\x2f\x4b\x00"}, {at(8558, 1817), "\x21\x6f\x01"}, {at(8558, 10290), "\x21\x6f\x00"},
	} {
		if got := impl.PointText(form.p); got != form.text {
			t.Errorf("PointText(%v) = %x, want %x", form.p, got, form.text)
		}
		if got, ok := impl.ReadPoint(form.text); !ok || got != form.p {
			t.Errorf("ReadPoint(%x) = %v, %v, want %v", form.text, got, ok, form.p)
		}
	}
}

func noPoint(t *testing.T, text string) {
	t.Helper()
	if p, ok := impl.ReadPoint(text); ok || p != (impl.Point{}) {
		t.Errorf("ReadPoint(%x) = %v, %v, want the zero value and false", text, p, ok)
	}
}

// Of all texts of three bytes that end with 0, 1, or few others, just those of points are read.
func TestReadPointOfEveryText(t *testing.T) {
	right := map[string]impl.Point{}
	for _, p := range everyPoint() {
		right[impl.PointText(p)] = p
	}
	found := 0
	for head := range 1 << 16 {
		for _, last := range []byte{0, 1, 2, 3, 128, 129, 254, 255} {
			text := string([]byte{byte(head >> 8), byte(head), last})
			want, is := right[text]
			if !is {
				noPoint(t, text)
				continue
			}
			found++
			if got, ok := impl.ReadPoint(text); !ok || got != want {
				t.Errorf("ReadPoint(%x) = %v, %v, want %v", text, got, ok, want)
			}
		}
	}
	if found != allPoints {
		t.Errorf("%d texts were read, want %d", found, allPoints)
	}
}

func TestReadPointOfWrongTexts(t *testing.T) {
	for last := range 256 {
		if last != 0 {
			noPoint(t, string([]byte{0, 0, byte(last)}))
			noPoint(t, string([]byte{0, 1, byte(last)}))
		}
		if last > 1 {
			noPoint(t, string([]byte{0x20, 0xfe, byte(last)}))
			noPoint(t, string([]byte{0x2f, 0x4b, byte(last)}))
		}
	}
	for _, text := range []string{
		"", "\x00", "\x00\x00", "\x00\x00\x00\x00", "\x00\x01", "\x20\xfe", "\x20\xfe\x01\x00", "\x20\xfe\x01\x01", "\x00\x20\xfe\x01", "\x20\xfe\x01\x20\xfe\x01",
		"\x00\x02\x00", "\x00\x02\x01", "\x00\x05\x00", "\x2f\x4c\x00", "\x2f\x4c\x01", "\x2f\x4d\x00", "\x50\x49\x01", "\x50\x49\x00", "\xff\xff\x00", "\xff\xff\x01", "\xff\xff\xff",
		"\xfe\x20\x01", "20fe01", patterned(1000),
	} {
		noPoint(t, text)
	}
}

func TestReadPointOfOtherLengths(t *testing.T) {
	for _, p := range pointEdges() {
		text := impl.PointText(p)
		noPoint(t, text[:1])
		noPoint(t, text[:2])
		noPoint(t, text[1:])
		for _, more := range []string{"\x00", "\x01", text} {
			noPoint(t, text+more)
			noPoint(t, more+text)
		}
	}
}

func TestReadPointPastTheField(t *testing.T) {
	for _, p := range everyPoint() {
		for off := 12107; !p.Zero && p.X+1+off < 1<<16; off += 12107 {
			x := p.X + 1 + off
			noPoint(t, string([]byte{byte(x >> 8), byte(x), byte(p.Y & 1)}))
		}
	}
}

// stepSum puts points together one by one, from Zero on.
func stepSum(list []impl.Point) impl.Point {
	sum := zeroPoint()
	for _, p := range list {
		sum = impl.PointAdd(sum, p)
	}
	return sum
}

// scatteredPoints are so many of the round, others for each start.
func scatteredPoints(start uint64, count int) []impl.Point {
	round := roundOfPoints()
	list := make([]impl.Point, count)
	for i, n := range scatteredScalars(start, count) {
		list[i] = round[uint64(n)>>8%allPoints]
	}
	return list
}

func TestSumPoints(t *testing.T) {
	long := scatteredPoints(71, 300)
	for length := range len(long) {
		list := long[:length]
		want := zeroPoint()
		for _, p := range list {
			want = wordedPointAdd(want, p)
		}
		if got := impl.SumPoints(list); got != want || got != stepSum(list) {
			t.Errorf("SumPoints of %d points = %v, want %v, one by one %v", length, got, want, stepSum(list))
		}
		turned := slices.Clone(list)
		slices.Reverse(turned)
		if got := impl.SumPoints(turned); got != want {
			t.Errorf("SumPoints of %d points is %v, but %v the other way round", length, want, got)
		}
	}
}

func TestSumPointsOfNoneAndOfOne(t *testing.T) {
	for _, none := range [][]impl.Point{nil, {}, pointEdges()[:0]} {
		if got := impl.SumPoints(none); got != zeroPoint() {
			t.Errorf("SumPoints of none = %v, want Zero", got)
		}
	}
	for _, p := range everyPoint() {
		if got := impl.SumPoints([]impl.Point{p}); got != p {
			t.Errorf("SumPoints of %v alone = %v", p, got)
		}
	}
	for _, p := range wrongPoints() {
		if got := impl.SumPoints([]impl.Point{p}); got != zeroPoint() {
			t.Errorf("SumPoints of %v alone = %v, want Zero", p, got)
		}
	}
}

func TestSumPointsOfOneSoOften(t *testing.T) {
	for _, p := range pointEdges() {
		for _, often := range []int{2, 3, 12, 100, 1009} {
			if got, want := impl.SumPoints(slices.Repeat([]impl.Point{p}, often)), impl.PointTimes(often, p); got != want {
				t.Errorf("SumPoints of %v %d times = %v, want %v", p, often, got, want)
			}
		}
		if got := impl.SumPoints([]impl.Point{p, impl.PointNeg(p)}); got != zeroPoint() {
			t.Errorf("SumPoints of %v and its PointNeg = %v, want Zero", p, got)
		}
	}
}

// What is put together with a wrong point is Zero, so only those behind it are left.
func TestSumPointsWithAWrongOne(t *testing.T) {
	right := scatteredPoints(73, 7)
	for _, wrong := range wrongPoints() {
		for place := range len(right) + 1 {
			list := slices.Insert(slices.Clone(right), place, wrong)
			want := zeroPoint()
			for _, p := range right[place:] {
				want = wordedPointAdd(want, p)
			}
			if got := impl.SumPoints(list); got != want || got != stepSum(list) {
				t.Errorf("SumPoints with %v at place %d = %v, want %v", wrong, place, got, want)
			}
			twice := append(list, wrong)
			if got := impl.SumPoints(twice); got != zeroPoint() {
				t.Errorf("SumPoints with %v at the end = %v, want Zero", wrong, got)
			}
		}
	}
}

func TestSumPointsLeavesItsListAsItWas(t *testing.T) {
	all := append(scatteredPoints(79, 20), wrongPoints()...)
	was := slices.Clone(all)
	for length := range len(all) + 1 {
		got := impl.SumPoints(all[:length])
		if !slices.Equal(all, was) {
			t.Fatalf("SumPoints of %d points has changed its list, or what is behind it", length)
		}
		if again := impl.SumPoints(all[:length]); again != got {
			t.Errorf("SumPoints of %d points = %v, then %v", length, got, again)
		}
	}
}
