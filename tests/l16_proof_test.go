package tests

import (
	"math"
	"math/big"
	"reflect"
	"slices"
	"strings"
	"testing"

	"loop.example/g00321/impl"
)

// curveRound has at each place a point that makes all others so often, and curveLogs the places of all points there.
var (
	curveRound = roundOfPoints()
	curveLogs  = placesOf(curveRound)
)

func placesOf(list []impl.Point) map[impl.Point]int {
	places := map[impl.Point]int{}
	for place, p := range list {
		places[p] = place
	}
	return places
}

// wordedMultiple is p so often, by its place in the round; Zero of a point that is not right.
func wordedMultiple(often int, p impl.Point) impl.Point {
	place, ok := curveLogs[p]
	if !ok {
		return zeroPoint()
	}
	product := new(big.Int).Mul(big.NewInt(int64(often)), big.NewInt(int64(place)))
	return curveRound[product.Mod(product, big.NewInt(allPoints)).Int64()]
}

// wordedWith puts to the first point each of list so often, in order.
func wordedWith(first impl.Point, often []int, list []impl.Point) impl.Point {
	for at, n := range often {
		first = wordedPointSum(first, wordedMultiple(n, list[at]))
	}
	return first
}

// scalarInverses has at each place what makes 1 with it, found by trying; 0 at 0.
var scalarInverses = inversesByTrying()

func inversesByTrying() []int {
	list := make([]int, 1009)
	for n := range list {
		for other := range list {
			if n*other%1009 == 1 {
				list[n] = other
			}
		}
	}
	return list
}

// wordedBy is over times what makes 1 with under.
func wordedBy(over int, under int) int {
	return wordedScalarOf(wordedScalarOf(over) * scalarInverses[under])
}

// wordedValue is what the polynomial through ys is at x, without its numbers: each y times what is 1 at its place and 0 at the others.
func wordedValue(ys []int, x int) int {
	sum := 0
	for i, y := range ys {
		over, under := y, 1
		for j := range ys {
			if i != j {
				over = wordedScalarOf(over * (x - j - 1))
				under = wordedScalarOf(under * (i - j))
			}
		}
		sum += wordedBy(over, under)
	}
	return sum % 1009
}

// keyLogs says of the points of a Maker how often each is Base; ws is what has no point of its own.
type keyLogs struct{ us, vs, ws, inputs, ls, zs []int }

// wordedLogs is of a right system and right numbers.
func wordedLogs(s impl.System, x impl.Toxic) keyLogs {
	logs := keyLogs{}
	for wire := range s.Wires {
		var values [3]int
		for side := range values {
			ys := []int{}
			for at := range s.Rows {
				ys = append(ys, (*sideOf(&s.Rows[at], side))[wire])
			}
			values[side] = wordedValue(ys, x.Tau)
		}
		logs.us, logs.vs, logs.ws = append(logs.us, values[0]), append(logs.vs, values[1]), append(logs.ws, values[2])
		together := x.Beta*values[0] + x.Alpha*values[1] + values[2]
		if wire <= s.Public {
			logs.inputs = append(logs.inputs, wordedBy(together, x.Gamma))
		} else {
			logs.ls = append(logs.ls, wordedBy(together, x.Delta))
		}
	}
	for i := range len(s.Rows) - 1 {
		n := wordedPolyAt(wordedZero(len(s.Rows)), x.Tau)
		for range i {
			n = n * x.Tau % 1009
		}
		logs.zs = append(logs.zs, wordedBy(n, x.Delta))
	}
	return logs
}

// pointsBy are Base so often each.
func pointsBy(often []int) []impl.Point {
	list := []impl.Point{}
	for _, n := range often {
		list = append(list, groupPoints[n])
	}
	return list
}

func wordedMaker(s impl.System, x impl.Toxic) impl.Maker {
	logs := wordedLogs(s, x)
	return impl.Maker{
		Keys: impl.Keys{Alpha: groupPoints[x.Alpha], Beta: groupPoints[x.Beta], Gamma: groupPoints[x.Gamma], Delta: groupPoints[x.Delta], Inputs: pointsBy(logs.inputs)},
		Us:   pointsBy(logs.us), Vs: pointsBy(logs.vs), Ls: pointsBy(logs.ls), Zs: pointsBy(logs.zs),
	}
}

func wordedToxicOk(s impl.System, x impl.Toxic) bool {
	return wordedSystemOk(s) && wordedScalars(toxicNumbers(x), 5) && !slices.Contains(toxicNumbers(x), 0) && x.Tau > len(s.Rows)
}

func toxicNumbers(x impl.Toxic) []int {
	return []int{x.Tau, x.Alpha, x.Beta, x.Gamma, x.Delta}
}

// toxicBy is of Tau, Alpha, Beta, Gamma and Delta.
func toxicBy(numbers []int) impl.Toxic {
	return impl.Toxic{Tau: numbers[0], Alpha: numbers[1], Beta: numbers[2], Gamma: numbers[3], Delta: numbers[4]}
}

func plainToxic() impl.Toxic {
	return toxicBy([]int{77, 5, 7, 11, 13})
}

func manyToxics() []impl.Toxic {
	list := []impl.Toxic{plainToxic(), toxicBy([]int{17, 1, 1, 1, 1}), toxicBy([]int{1008, 1008, 1008, 1008, 1008}), toxicBy([]int{18, 1008, 1, 1008, 1})}
	for start := range uint64(3) {
		numbers := lowScalars(start+811, 5)
		for at := range numbers {
			numbers[at] = max(numbers[at], 17)
		}
		list = append(list, toxicBy(numbers))
	}
	return list
}

// makerLists are the lists of a Maker, by their places in it.
func makerLists(m impl.Maker) [][]impl.Point {
	return [][]impl.Point{m.Us, m.Vs, m.Ls, m.Zs, m.Keys.Inputs}
}

func makerList(m *impl.Maker, which int) *[]impl.Point {
	return []*[]impl.Point{&m.Us, &m.Vs, &m.Ls, &m.Zs, &m.Keys.Inputs}[which]
}

func sameMaker(a impl.Maker, b impl.Maker) bool {
	alike := a.Keys.Alpha == b.Keys.Alpha && a.Keys.Beta == b.Keys.Beta && a.Keys.Gamma == b.Keys.Gamma && a.Keys.Delta == b.Keys.Delta
	return alike && slices.EqualFunc(makerLists(a), makerLists(b), slices.Equal[[]impl.Point])
}

func makerCopy(m impl.Maker) impl.Maker {
	for which := range 5 {
		*makerList(&m, which) = slices.Clone(*makerList(&m, which))
	}
	return m
}

// checkKeys asks ToxicOk and MakeKeys.
func checkKeys(t *testing.T, s impl.System, x impl.Toxic) {
	t.Helper()
	want, right := impl.Maker{}, wordedToxicOk(s, x)
	if right {
		want = wordedMaker(s, x)
	}
	if got := impl.ToxicOk(s, x); got != right {
		t.Errorf("ToxicOk(%v, %v) = %v, want %v", s, x, got, right)
	}
	if got, ok := impl.MakeKeys(s, x); ok != right || !sameMaker(got, want) {
		t.Errorf("MakeKeys(%v, %v) = %v, %v, want %v, %v", s, x, got, ok, want, right)
	}
}

// noKeys is of a system or of numbers that are not right.
func noKeys(t *testing.T, s impl.System, x impl.Toxic) {
	t.Helper()
	if wordedToxicOk(s, x) {
		t.Errorf("%v with %v is right", s, x)
	}
	checkKeys(t, s, x)
	for _, public := range [][]int{nil, {5}, {5, 2}, make([]int, max(s.Public%100, 0))} {
		noFake(t, s, x, public, 3, 4)
	}
}

// wordedProve is of a witness that satisfies s and a Maker of the right size, whatever its points are.
func wordedProve(s impl.System, m impl.Maker, w []int, r int, z int) impl.Proof {
	quotient, _ := impl.QuotientOf(s, w)
	a := wordedPointSum(wordedWith(m.Keys.Alpha, w, m.Us), wordedMultiple(r, m.Keys.Delta))
	b := wordedPointSum(wordedWith(m.Keys.Beta, w, m.Vs), wordedMultiple(z, m.Keys.Delta))
	c := wordedWith(zeroPoint(), w[s.Public+1:], m.Ls)
	c = wordedWith(c, quotient, m.Zs)
	c = wordedWith(c, []int{z, r, -(r * z % 1009)}, []impl.Point{a, b, m.Keys.Delta})
	return impl.Proof{A: a, B: b, C: c}
}

// wordedProof is what the numbers make of a witness that satisfies s, without a quotient: at Tau the quotient times PolyZero is what the rows' product has more.
func wordedProof(s impl.System, x impl.Toxic, w []int, r int, z int) impl.Proof {
	logs := wordedLogs(s, x)
	u, v := wordedDot(logs.us, w), wordedDot(logs.vs, w)
	a, b := (x.Alpha+u+r*x.Delta)%1009, (x.Beta+v+z*x.Delta)%1009
	c := wordedDot(logs.ls, w[s.Public+1:]) + wordedBy(u*v-wordedDot(logs.ws, w), x.Delta) + z*a + r*b - r*z*x.Delta
	return impl.Proof{A: groupPoints[a], B: groupPoints[b], C: groupPoints[wordedScalarOf(c)]}
}

func checkProve(t *testing.T, s impl.System, m impl.Maker, w []int, r int, z int, want impl.Proof) {
	t.Helper()
	if got, ok := impl.ProveWith(s, m, w, r, z); !ok || got != want {
		t.Errorf("ProveWith(%v, %v, %v, %d, %d) = %v, %v, want %v, true", s, m, w, r, z, got, ok, want)
	}
}

func noProve(t *testing.T, s impl.System, m impl.Maker, w []int, r int, z int) {
	t.Helper()
	if got, ok := impl.ProveWith(s, m, w, r, z); ok || got != (impl.Proof{}) {
		t.Errorf("ProveWith(%v, %v, %v, %d, %d) = %v, %v, want the zero Proof, false", s, m, w, r, z, got, ok)
	}
}

func wordedInputSum(k impl.Keys, public []int) impl.Point {
	if len(k.Inputs) != len(public)+1 {
		return zeroPoint()
	}
	return wordedWith(k.Inputs[0], public, k.Inputs[1:])
}

func checkInputSum(t *testing.T, k impl.Keys, public []int) {
	t.Helper()
	if got, want := impl.InputSum(k, public), wordedInputSum(k, public); got != want {
		t.Errorf("InputSum(%v, %v) = %v, want %v", k, public, got, want)
	}
}

// wordedPairPower is which power of the pair of Base and Base a pair is: none of a point that is not of the group.
func wordedPairPower(p impl.Point, q impl.Point) int {
	first, ok := groupLogs[p]
	second, right := groupLogs[q]
	if !ok || !right {
		return 0
	}
	return first * second % 1009
}

func wordedProofOk(k impl.Keys, public []int, p impl.Proof) bool {
	for _, point := range proofList(p) {
		if _, ok := groupLogs[point]; !ok {
			return false
		}
	}
	if p.A.Zero || p.B.Zero || !wordedScalars(public, len(k.Inputs)-1) {
		return false
	}
	told := wordedPairPower(k.Alpha, k.Beta) + wordedPairPower(wordedInputSum(k, public), k.Gamma) + wordedPairPower(p.C, k.Delta)
	return wordedPairPower(p.A, p.B) == told%1009
}

func checkProofOk(t *testing.T, k impl.Keys, public []int, p impl.Proof, want bool) {
	t.Helper()
	if got := impl.ProofOk(k, public, p); got != want || wordedProofOk(k, public, p) != want {
		t.Errorf("ProofOk(%v, %v, %v) = %v, want %v", k, public, p, got, want)
	}
}

// proofList has the points of a proof by their places.
func proofList(p impl.Proof) []impl.Point {
	return []impl.Point{p.A, p.B, p.C}
}

func proofOf(list []impl.Point) impl.Proof {
	return impl.Proof{A: list[0], B: list[1], C: list[2]}
}

// withPoint is the proof but for one of its points.
func withPoint(p impl.Proof, part int, point impl.Point) impl.Proof {
	list := proofList(p)
	list[part] = point
	return proofOf(list)
}

// keyPoint is a point of the keys by its place: Alpha, Beta, Gamma, Delta, and the Inputs.
func keyPoint(k *impl.Keys, place int) *impl.Point {
	if place < 4 {
		return []*impl.Point{&k.Alpha, &k.Beta, &k.Gamma, &k.Delta}[place]
	}
	return &k.Inputs[place-4]
}

// withKeyPoint is the keys but for one of their points.
func withKeyPoint(k impl.Keys, place int, point impl.Point) impl.Keys {
	k.Inputs = slices.Clone(k.Inputs)
	*keyPoint(&k, place) = point
	return k
}

func wordedFake(s impl.System, x impl.Toxic, public []int, a int, b int) impl.Proof {
	logs := wordedLogs(s, x)
	inputs := logs.inputs[0] + wordedDot(logs.inputs[1:], public)
	c := wordedBy(a*b-x.Alpha*x.Beta-x.Gamma*inputs, x.Delta)
	return impl.Proof{A: groupPoints[a], B: groupPoints[b], C: groupPoints[c]}
}

func checkFake(t *testing.T, s impl.System, x impl.Toxic, public []int, a int, b int) impl.Proof {
	t.Helper()
	got, ok := impl.FakeProof(s, x, public, a, b)
	if want := wordedFake(s, x, public, a, b); !ok || got != want {
		t.Errorf("FakeProof(%v, %v, %v, %d, %d) = %v, %v, want %v, true", s, x, public, a, b, got, ok, want)
	}
	return got
}

func noFake(t *testing.T, s impl.System, x impl.Toxic, public []int, a int, b int) {
	t.Helper()
	if got, ok := impl.FakeProof(s, x, public, a, b); ok || got != (impl.Proof{}) {
		t.Errorf("FakeProof(%v, %v, %v, %d, %d) = %v, %v, want the zero Proof, false", s, x, public, a, b, got, ok)
	}
}

// scalarEnds are at and beside both ends of 0 .. OrderR - 1.
func scalarEnds() []int {
	return []int{-1, 0, 1, 2, 1007, 1008, 1009, 1010, -1008, -1009, 2018, 1<<32 + 5, math.MinInt, math.MaxInt}
}

// proven is a system with a witness that satisfies it.
type proven struct {
	s impl.System
	w []int
}

// public are the numbers of the witness that are told.
func (p proven) public() []int {
	return p.w[1 : p.s.Public+1]
}

// manyProven have Public 0, in the middle and at its greatest; 1 row, some, and MaxRows.
func manyProven() []proven {
	list := []proven{
		{impl.CountSystem(), wordedWitness(5)}, {impl.CountSystem(), wordedWitness(0)}, {impl.CountSystem(), wordedWitness(255)},
		{puzzleSystem(), []int{1, 6, 3, 9}}, {puzzleSystem(), []int{1, 0, 0, 0}}, {puzzleSystem(), []int{1, 47, 33, 80}},
		{sameRows(1, 0, 1), []int{1}}, {sameRows(3, 1, 2), []int{1, 7, 1008}}, {sameRows(20, 19, 16), lowWitness(821, 20)},
	}
	for _, wires := range []int{1, 2, 7, 20} {
		for _, rows := range []int{1, 2, 9, 16} {
			for _, public := range []int{0, wires / 2, wires - 1} {
				w := lowWitness(uint64(wires*1000+rows*30+public)+823, wires)
				list = append(list, proven{settledSystem(uint64(wires+rows*40+public*900)+827, public, rows, w), w})
			}
		}
	}
	return list
}

// oddSystems are right but for one thing each; of some the rows are one or MaxRows.
func oddSystems() []impl.System {
	list := []impl.System{
		{}, {Wires: 1}, {Wires: 1, Rows: []impl.Row{}}, sameRows(0, 0, 1), sameRows(-1, 0, 1), sameRows(21, 2, 1), sameRows(21, 2, 16), sameRows(3, -1, 1), sameRows(3, 3, 1), sameRows(3, 4, 16),
		sameRows(3, 1, 0), sameRows(3, 1, 17), sameRows(3, math.MinInt, 1), sameRows(3, math.MaxInt, 1), {Wires: math.MaxInt, Public: 2, Rows: sameRows(3, 1, 1).Rows}, {Wires: math.MinInt, Rows: sameRows(3, 1, 1).Rows},
	}
	for _, rows := range []int{1, 16} {
		s := sameRows(3, 2, rows)
		for side := range 3 {
			for _, side3 := range [][]int{nil, {}, {0, 0}, {0, 0, 0, 0}, {0, 0, -1}, {1009, 0, 0}, {0, math.MaxInt, 0}} {
				list = append(list, withSide(s, rows-1, side, side3))
			}
		}
	}
	return list
}

func TestToxicOkOfEachNumber(t *testing.T) {
	for _, s := range []impl.System{impl.CountSystem(), sameRows(1, 0, 1), sameRows(20, 0, 16)} {
		for at := range 5 {
			for _, n := range scalarEnds() {
				numbers := withNumber(toxicNumbers(plainToxic()), at, n)
				want := n >= 1 && n <= 1008 && (at > 0 || n > len(s.Rows))
				if got := impl.ToxicOk(s, toxicBy(numbers)); got != want {
					t.Errorf("ToxicOk of %d rows and %v = %v, want %v", len(s.Rows), numbers, got, want)
				}
				checkKeys(t, s, toxicBy(numbers))
				if !want {
					noKeys(t, s, toxicBy(numbers))
				}
			}
		}
	}
}

// Only behind the rows Tau is no place at which PolyZero is 0.
func TestToxicOkOfTauAtTheRows(t *testing.T) {
	for rows := 1; rows <= 16; rows++ {
		w := lowWitness(uint64(rows)+829, 4)
		s := settledSystem(uint64(rows)+839, 2, rows, w)
		for tau := range 20 {
			x := plainToxic()
			x.Tau = tau
			if got := impl.ToxicOk(s, x); got != (tau > rows) {
				t.Errorf("ToxicOk of %d rows with Tau %d = %v", rows, tau, got)
			}
			checkKeys(t, s, x)
			if tau <= rows {
				noKeys(t, s, x)
			}
		}
	}
}

func TestKeysOfSystemsThatAreNotRight(t *testing.T) {
	for _, s := range oddSystems() {
		checkSystemOk(t, s, false)
		for _, x := range append(manyToxics(), impl.Toxic{}) {
			noKeys(t, s, x)
		}
		for _, w := range [][]int{nil, {1}, {1, 0, 0}, oneAndZeros(s.Wires % 100)} {
			noProve(t, s, impl.Maker{}, w, 0, 0)
			m := impl.Maker{Us: make([]impl.Point, 3), Vs: make([]impl.Point, 3), Zs: make([]impl.Point, len(s.Rows))}
			noProve(t, s, m, w, 0, 0)
		}
	}
}

func TestMakeKeysOfManySystems(t *testing.T) {
	for _, p := range manyProven() {
		for _, x := range manyToxics() {
			checkKeys(t, p.s, x)
		}
		m, ok := impl.MakeKeys(p.s, plainToxic())
		sizes := []int{len(m.Us), len(m.Vs), len(m.Ls), len(m.Zs), len(m.Keys.Inputs)}
		want := []int{p.s.Wires, p.s.Wires, p.s.Wires - 1 - p.s.Public, len(p.s.Rows) - 1, p.s.Public + 1}
		if !ok || !slices.Equal(sizes, want) {
			t.Errorf("of %d wires, %d told, and %d rows MakeKeys has %v, %v, want %v", p.s.Wires, p.s.Public, len(p.s.Rows), sizes, ok, want)
		}
	}
}

func TestMakeKeysOfSystemsOfAllSizes(t *testing.T) {
	for wires := 1; wires <= 20; wires++ {
		for rows := 1; rows <= 16; rows += 3 {
			w := lowWitness(uint64(wires*100+rows)+853, wires)
			for _, public := range []int{0, wires / 3, wires - 1} {
				checkKeys(t, settledSystem(uint64(rows*100+wires)+857, public, rows, w), plainToxic())
			}
		}
	}
}

// The points were worked out apart from the program.
func TestMakeKeysForms(t *testing.T) {
	m, ok := impl.MakeKeys(impl.CountSystem(), plainToxic())
	if !ok {
		t.Fatal("MakeKeys of CountSystem is false")
	}
	for _, form := range []struct{ got, want impl.Point }{
		{m.Keys.Alpha, at(11077, 2618)}, {m.Keys.Beta, at(974, 5050)}, {m.Keys.Gamma, at(11304, 10954)}, {m.Keys.Delta, at(1171, 1110)},
		{m.Keys.Inputs[0], at(2861, 7321)}, {m.Keys.Inputs[1], at(3850, 6107)}, {m.Keys.Inputs[2], at(4200, 8260)},
		{m.Us[0], at(4835, 6497)}, {m.Us[1], zeroPoint()}, {m.Vs[3], at(8337, 11522)},
		{m.Ls[0], at(8475, 8059)}, {m.Ls[7], at(652, 10315)}, {m.Zs[0], at(2218, 3075)}, {m.Zs[8], at(1690, 1957)},
	} {
		if form.got != form.want {
			t.Errorf("MakeKeys of CountSystem has %v, want %v", form.got, form.want)
		}
	}
	for _, form := range []struct {
		x                      impl.Toxic
		us, vs, ls, zs, inputs []int
	}{
		{toxicBy([]int{3, 1, 1, 1, 1}), []int{0, 0, 1006, 2}, []int{2, 0, 1008, 0}, []int{1005, 1}, []int{2}, []int{2, 2}},
		{toxicBy([]int{1008, 2, 1008, 500, 1008}), []int{0, 0, 5, 1007}, []int{1007, 0, 3, 0}, []int{1008, 1004}, []int{1003}, []int{113, 561}},
	} {
		m, ok := impl.MakeKeys(puzzleSystem(), form.x)
		want := impl.Maker{Keys: m.Keys, Us: pointsBy(form.us), Vs: pointsBy(form.vs), Ls: pointsBy(form.ls), Zs: pointsBy(form.zs)}
		want.Keys.Inputs = pointsBy(form.inputs)
		if !ok || !sameMaker(m, want) {
			t.Errorf("MakeKeys of a puzzle with %v = %v, %v, want %v", form.x, m, ok, want)
		}
	}
}

// The points and texts were worked out apart from the program.
func TestProofForms(t *testing.T) {
	s := impl.CountSystem()
	m, _ := impl.MakeKeys(s, plainToxic())
	for _, form := range []struct {
		bits, r, z int
		want       []impl.Point
		text       string
		inputs     impl.Point
	}{
		{5, 5, 7, []impl.Point{at(1066, 8531), at(9765, 3066), at(7326, 11417)}, "042b012626001c9f01", at(2452, 8698)},
		{0, 0, 0, []impl.Point{at(7998, 6503), at(974, 5050), zeroPoint()}, "1f3f0103cf00000000", at(2861, 7321)},
		{255, 1008, 1008, []impl.Point{at(974, 7057), at(3149, 7326), at(7822, 692)}, "03cf010c4e001e8f00", at(4041, 10014)},
		{63, 0, 1, []impl.Point{at(5024, 6568), at(3948, 6271), at(4548, 498)}, "13a1000f6d0111c500", at(10331, 10735)},
		{202, 1008, 0, []impl.Point{at(6578, 583), at(3129, 10372), at(3933, 11096)}, "19b3010c3a000f5e00", at(11253, 512)},
	} {
		want := proofOf(form.want)
		checkProve(t, s, m, impl.CountWitness(form.bits), form.r, form.z, want)
		checkProofOk(t, m.Keys, impl.PublicOf(form.bits), want, true)
		isProofText(t, want, fromFigures(t, form.text))
		if got := impl.InputSum(m.Keys, impl.PublicOf(form.bits)); got != form.inputs {
			t.Errorf("InputSum of %d = %v, want %v", form.bits, got, form.inputs)
		}
	}
	for _, form := range []struct {
		public []int
		a, b   int
		want   []impl.Point
		text   string
	}{
		{[]int{5, 9}, 3, 4, []impl.Point{at(7244, 3323), at(174, 11376), at(2218, 9032)}, "1c4d0100af0008ab00"},
		{[]int{5, 2}, 1, 1008, []impl.Point{at(8445, 859), at(8445, 11248), at(174, 731)}, "20fe0120fe0000af01"},
		{[]int{1008, 0}, 1008, 1008, []impl.Point{at(8445, 11248), at(8445, 11248), at(9733, 10950)}, "20fe0020fe00260600"},
	} {
		got, ok := impl.FakeProof(s, plainToxic(), form.public, form.a, form.b)
		if !ok || got != proofOf(form.want) {
			t.Errorf("FakeProof of %v with %d and %d = %v, %v, want %v", form.public, form.a, form.b, got, ok, form.want)
		}
		checkProofOk(t, m.Keys, form.public, got, true)
		isProofText(t, got, fromFigures(t, form.text))
	}
	x := toxicBy([]int{1008, 2, 1008, 500, 1008})
	m, _ = impl.MakeKeys(puzzleSystem(), x)
	checkProve(t, puzzleSystem(), m, []int{1, 6, 3, 9}, 3, 1008, impl.Proof{A: at(174, 731), B: at(974, 5050), C: at(4254, 5624)})
}

// Whoever knows the bits proves them, with whatever r and z.
func TestProofsOfEveryNumber(t *testing.T) {
	s, x := impl.CountSystem(), plainToxic()
	m, _ := impl.MakeKeys(s, x)
	for bits := range 256 {
		w := impl.CountWitness(bits)
		for _, r := range []int{0, 1008, bits * 3} {
			z := (bits*bits*7 + r) % 1009
			want := wordedProof(s, x, w, r, z)
			checkProve(t, s, m, w, r, z, want)
			checkProofOk(t, m.Keys, impl.PublicOf(bits), want, !want.A.Zero && !want.B.Zero)
		}
	}
}

func TestProofsOfManySystems(t *testing.T) {
	toxics := manyToxics()
	for i, p := range manyProven() {
		for _, x := range []impl.Toxic{toxics[i%7], toxics[(i+3)%7]} {
			m, _ := impl.MakeKeys(p.s, x)
			for _, blind := range [][]int{{0, 0}, {1, 0}, {0, 1}, {1008, 1008}, lowScalars(uint64(i)+859, 2)} {
				want := wordedProof(p.s, x, p.w, blind[0], blind[1])
				checkProve(t, p.s, m, p.w, blind[0], blind[1], want)
				if wordedProve(p.s, m, p.w, blind[0], blind[1]) != want {
					t.Errorf("of %v both ways to a proof are not the same", p)
				}
				checkProofOk(t, m.Keys, p.public(), want, !want.A.Zero && !want.B.Zero)
			}
		}
	}
}

// In the place of r and of z any number of 0 .. OrderR - 1 will do, and no other.
func TestProofsWithEveryRAndZ(t *testing.T) {
	s, x, w := puzzleSystem(), plainToxic(), []int{1, 6, 3, 9}
	m, _ := impl.MakeKeys(s, x)
	for n := range 1009 {
		for _, blind := range [][]int{{n, 7}, {9, n}} {
			want := wordedProof(s, x, w, blind[0], blind[1])
			checkProve(t, s, m, w, blind[0], blind[1], want)
			checkProofOk(t, m.Keys, []int{6}, want, !want.A.Zero && !want.B.Zero)
		}
	}
	for _, r := range scalarEnds() {
		for _, z := range scalarEnds() {
			if wordedScalars([]int{r, z}, 2) {
				checkProve(t, s, m, w, r, z, wordedProof(s, x, w, r, z))
			} else {
				noProve(t, s, m, w, r, z)
			}
		}
	}
}

// A proof whose A or B comes out as Zero is made, but it is not right, though its pairs are: C is so that both sides are 1.
func TestProofsWithZero(t *testing.T) {
	for _, p := range manyProven() {
		x := plainToxic()
		m, _ := impl.MakeKeys(p.s, x)
		logs := wordedLogs(p.s, x)
		r := wordedBy(-x.Alpha-wordedDot(logs.us, p.w), x.Delta)
		z := wordedBy(-x.Beta-wordedDot(logs.vs, p.w), x.Delta)
		for _, blind := range [][]int{{r, 5}, {r, 0}, {5, z}, {0, z}, {r, z}} {
			got, ok := impl.ProveWith(p.s, m, p.w, blind[0], blind[1])
			if !ok || got != wordedProof(p.s, x, p.w, blind[0], blind[1]) || got.A.Zero != (blind[0] == r) || got.B.Zero != (blind[1] == z) {
				t.Errorf("ProveWith(%v, %v) = %v, %v", p, blind, got, ok)
			}
			checkProofOk(t, m.Keys, p.public(), got, false)
		}
	}
}

// C may be Zero: it is so when A and B make what is told by themselves.
func TestProofsWhoseCIsZero(t *testing.T) {
	s, x := impl.CountSystem(), plainToxic()
	m, _ := impl.MakeKeys(s, x)
	logs := wordedLogs(s, x)
	for bits := range 64 {
		public := impl.PublicOf(bits)
		told := wordedScalarOf(x.Alpha*x.Beta + x.Gamma*(logs.inputs[0]+wordedDot(logs.inputs[1:], public)))
		for _, a := range []int{1, 2, 1008, bits + 1} {
			if told == 0 {
				continue
			}
			got := checkFake(t, s, x, public, a, wordedBy(told, a))
			if !got.C.Zero {
				t.Errorf("FakeProof of %v with %d has C %v, want Zero", public, a, got.C)
			}
			checkProofOk(t, m.Keys, public, got, true)
			checkProofOk(t, m.Keys, public, withPoint(got, 2, impl.Base()), false)
		}
	}
}

// What is told otherwise is right just when it comes to the same sum.
func TestProofsToldOtherwise(t *testing.T) {
	s, x := impl.CountSystem(), plainToxic()
	m, _ := impl.MakeKeys(s, x)
	logs := wordedLogs(s, x)
	for _, bits := range []int{0, 5, 255} {
		p, _ := impl.ProveWith(s, m, impl.CountWitness(bits), 5, 7)
		own := wordedDot(logs.inputs[1:], impl.PublicOf(bits))
		for packed := range 1009 {
			same := wordedBy(own-logs.inputs[1]*packed, logs.inputs[2])
			checkProofOk(t, m.Keys, []int{packed, same}, p, true)
			for _, count := range []int{impl.CountBits(bits), (same + 1) % 1009, (same + 1008) % 1009, same * packed % 1009} {
				want := impl.InputSum(m.Keys, []int{packed, count}) == impl.InputSum(m.Keys, impl.PublicOf(bits))
				checkProofOk(t, m.Keys, []int{packed, count}, p, want)
				if want != (count == same) {
					t.Errorf("of %d and %d the sums are alike: %v", packed, count, want)
				}
			}
		}
	}
}

func TestProofsOfManySystemsToldOtherwise(t *testing.T) {
	for i, p := range manyProven() {
		m, _ := impl.MakeKeys(p.s, plainToxic())
		proof, _ := impl.ProveWith(p.s, m, p.w, 3, 1000)
		own := impl.InputSum(m.Keys, p.public())
		for place := range p.public() {
			for _, n := range lowScalars(uint64(i*20+place)+863, 6) {
				public := withNumber(p.public(), place, n)
				want := impl.InputSum(m.Keys, public) == own
				checkProofOk(t, m.Keys, public, proof, want)
				if want != (n == p.public()[place] || m.Keys.Inputs[place+1].Zero) {
					t.Errorf("of %v told as %v the sums are alike: %v", p, public, want)
				}
			}
		}
	}
}

// Told are numbers in 0 .. OrderR - 1 alone, though others come to the same sum.
func TestProofsToldOutsideTheScalars(t *testing.T) {
	for _, p := range manyProven() {
		m, _ := impl.MakeKeys(p.s, plainToxic())
		proof, _ := impl.ProveWith(p.s, m, p.w, 3, 1000)
		for place, n := range p.public() {
			for _, off := range []int{1009, -1009, 1009 * 12, -1009 * 12, 1009 << 40} {
				public := withNumber(p.public(), place, n+off)
				if impl.InputSum(m.Keys, public) != impl.InputSum(m.Keys, p.public()) {
					t.Errorf("InputSum of %v is not that of %v", public, p.public())
				}
				checkProofOk(t, m.Keys, public, proof, false)
			}
			for _, n := range []int{-1, 1009, math.MinInt, math.MaxInt} {
				checkProofOk(t, m.Keys, withNumber(p.public(), place, n), proof, false)
			}
			for _, n := range []int{0, 1008} {
				public := withNumber(p.public(), place, n)
				checkProofOk(t, m.Keys, public, proof, wordedProofOk(m.Keys, public, proof))
				checkProofOk(t, m.Keys, public, checkFake(t, p.s, plainToxic(), public, 3, 4), true)
			}
		}
	}
}

func TestProofsToldInAnotherNumber(t *testing.T) {
	for _, p := range manyProven() {
		m, _ := impl.MakeKeys(p.s, plainToxic())
		proof, _ := impl.ProveWith(p.s, m, p.w, 3, 1000)
		public := p.public()
		others := [][]int{append(slices.Clone(public), 0), append(slices.Clone(public), 5), append([]int{0}, public...), append([]int{1}, public...), make([]int, 40)}
		if len(public) > 0 {
			others = append(others, public[1:], public[:len(public)-1], nil, []int{})
		}
		for _, other := range others {
			checkProofOk(t, m.Keys, other, proof, false)
			checkInputSum(t, m.Keys, other)
			if got := impl.InputSum(m.Keys, other); !got.Zero {
				t.Errorf("InputSum of %d Inputs and %d numbers = %v, want Zero", len(m.Keys.Inputs), len(other), got)
			}
			noFake(t, p.s, plainToxic(), other, 3, 4)
		}
		k := m.Keys
		for _, inputs := range [][]impl.Point{nil, {}, k.Inputs[1:], k.Inputs[:len(k.Inputs)-1], append(slices.Clone(k.Inputs), zeroPoint()), append([]impl.Point{zeroPoint()}, k.Inputs...)} {
			k.Inputs = inputs
			checkProofOk(t, k, public, proof, false)
			checkInputSum(t, k, public)
		}
	}
}

// Without Inputs nothing is proven, not even nothing.
func TestKeysWithoutInputs(t *testing.T) {
	base := impl.Base()
	k := impl.Keys{Alpha: base, Beta: base, Gamma: base, Delta: base}
	for _, public := range [][]int{nil, {}, {0}, {1}, {5, 2}} {
		for _, inputs := range [][]impl.Point{nil, {}} {
			k.Inputs = inputs
			if got := impl.InputSum(k, public); got != zeroPoint() {
				t.Errorf("InputSum without Inputs of %v = %v, want Zero", public, got)
			}
			checkProofOk(t, k, public, impl.Proof{A: base, B: base, C: zeroPoint()}, false)
			checkProofOk(t, k, public, impl.Proof{}, false)
		}
	}
	// With one that is Zero the same proof is right: Base and Base is Alpha and Beta.
	k.Inputs = []impl.Point{zeroPoint()}
	checkProofOk(t, k, nil, impl.Proof{A: base, B: base, C: zeroPoint()}, true)
	checkProofOk(t, k, []int{}, impl.Proof{A: base, B: base, C: zeroPoint()}, true)
}

// Whoever knows the numbers proves whatever is told, with no witness.
func TestFakeProofs(t *testing.T) {
	toxics := manyToxics()
	for i, p := range manyProven() {
		for _, x := range []impl.Toxic{toxics[i%7], toxics[(i+3)%7]} {
			m, _ := impl.MakeKeys(p.s, x)
			for start := range uint64(3) {
				public := lowScalars(start*50+uint64(i)+877, p.s.Public)
				numbers := lowScalars(start+uint64(i)+881, 2)
				got := checkFake(t, p.s, x, public, max(numbers[0], 1), max(numbers[1], 1))
				checkProofOk(t, m.Keys, public, got, true)
				if p.s.Public > 0 && !m.Keys.Inputs[1].Zero {
					checkProofOk(t, m.Keys, withNumber(public, 0, (public[0]+1)%1009), got, false)
				}
			}
		}
	}
}

func TestFakeProofsOfEveryPublic(t *testing.T) {
	s, x := impl.CountSystem(), plainToxic()
	m, _ := impl.MakeKeys(s, x)
	for n := range 1009 {
		public := [][]int{{n, 5}, {7, n}, {n, n}}[n%3]
		checkProofOk(t, m.Keys, public, checkFake(t, s, x, public, n%1008+1, 9), true)
	}
}

func TestFakeProofsOfEveryAAndB(t *testing.T) {
	s, x, public := puzzleSystem(), plainToxic(), []int{77}
	m, _ := impl.MakeKeys(s, x)
	for n := 1; n < 1009; n++ {
		checkProofOk(t, m.Keys, public, checkFake(t, s, x, public, n, 5), true)
		checkProofOk(t, m.Keys, public, checkFake(t, s, x, public, 5, n), true)
	}
	for _, a := range scalarEnds() {
		for _, b := range scalarEnds() {
			if a >= 1 && a <= 1008 && b >= 1 && b <= 1008 {
				checkProofOk(t, m.Keys, public, checkFake(t, s, x, public, a, b), true)
			} else {
				noFake(t, s, x, public, a, b)
			}
		}
	}
}

// FakeProof asks how many numbers are told, not which: those outside make the proof that those inside make.
func TestFakeProofsOfNumbersOutside(t *testing.T) {
	s, x := impl.CountSystem(), plainToxic()
	m, _ := impl.MakeKeys(s, x)
	for _, n := range scalarEdges() {
		for _, public := range [][]int{{n, 2}, {5, n}, {n, n}} {
			got := checkFake(t, s, x, public, 3, 4)
			inside := []int{wordedScalarOf(public[0]), wordedScalarOf(public[1])}
			if checkFake(t, s, x, inside, 3, 4) != got {
				t.Errorf("FakeProof of %v and of %v are not the same", public, inside)
			}
			checkProofOk(t, m.Keys, inside, got, true)
			checkProofOk(t, m.Keys, public, got, slices.Equal(public, inside))
		}
	}
}

func TestFakeProofsOfOtherCounts(t *testing.T) {
	for _, p := range manyProven() {
		for count := range 24 {
			if count != p.s.Public {
				noFake(t, p.s, plainToxic(), make([]int, count), 3, 4)
			}
		}
		checkFake(t, p.s, plainToxic(), make([]int, p.s.Public), 3, 4)
	}
	checkFake(t, sameRows(3, 0, 2), plainToxic(), nil, 3, 4)
	checkFake(t, sameRows(3, 0, 2), plainToxic(), []int{}, 3, 4)
	noFake(t, sameRows(3, 1, 2), plainToxic(), nil, 3, 4)
}

func TestProveWithMakersOfOtherSizes(t *testing.T) {
	for _, p := range manyProven() {
		m, _ := impl.MakeKeys(p.s, plainToxic())
		want := wordedProof(p.s, plainToxic(), p.w, 5, 7)
		for which := range 4 {
			list := *makerList(&m, which)
			others := [][]impl.Point{append(slices.Clone(list), zeroPoint()), append([]impl.Point{impl.Base()}, list...), slices.Concat(list, make([]impl.Point, 30))}
			if len(list) > 0 {
				others = append(others, list[1:], list[:len(list)-1], nil, []impl.Point{})
			}
			for _, other := range others {
				odd := makerCopy(m)
				*makerList(&odd, which) = other
				noProve(t, p.s, odd, p.w, 5, 7)
			}
		}
		// The Inputs are of no use to who proves.
		for _, inputs := range [][]impl.Point{nil, {}, {impl.Base()}, make([]impl.Point, 30)} {
			odd := makerCopy(m)
			odd.Keys.Inputs = inputs
			checkProve(t, p.s, odd, p.w, 5, 7, want)
		}
		noProve(t, p.s, impl.Maker{Keys: m.Keys}, p.w, 5, 7)
		noProve(t, p.s, impl.Maker{}, p.w, 5, 7)
	}
}

// With a Maker of another system something is proven just when all its sizes are the same.
func TestProveWithMakersOfOtherSystems(t *testing.T) {
	all := manyProven()
	for i, p := range all {
		m, _ := impl.MakeKeys(p.s, plainToxic())
		for j := i % 5; j < len(all); j += 5 {
			other := all[j]
			if p.s.Wires == other.s.Wires && p.s.Public == other.s.Public && len(p.s.Rows) == len(other.s.Rows) {
				checkProve(t, other.s, m, other.w, 5, 7, wordedProve(other.s, m, other.w, 5, 7))
			} else {
				noProve(t, other.s, m, other.w, 5, 7)
			}
		}
	}
}

func TestProveWithWitnessesThatDoNotSatisfy(t *testing.T) {
	for i, p := range manyProven() {
		m, _ := impl.MakeKeys(p.s, plainToxic())
		for at := range p.w {
			for _, n := range []int{-1, 0, 1, 1008, 1009, p.w[at] + 1, p.w[at] + 1009, p.w[at] - 1009, lowScalars(uint64(i*20+at)+883, 1)[0]} {
				w := withNumber(p.w, at, n)
				if wordedSatisfied(p.s, w) {
					checkProve(t, p.s, m, w, 5, 7, wordedProof(p.s, plainToxic(), w, 5, 7))
				} else {
					noProve(t, p.s, m, w, 5, 7)
				}
			}
		}
		for _, w := range [][]int{nil, {}, p.w[1:], p.w[:len(p.w)-1], append(slices.Clone(p.w), 0), append([]int{1}, p.w...), make([]int, len(p.w)), make([]int, 30)} {
			noProve(t, p.s, m, w, 5, 7)
		}
	}
}

// All 0 holds in rows without a 1, and a quotient is there, but the first number is to be 1.
func TestProveWithoutAOne(t *testing.T) {
	s := impl.CountSystem()
	m, _ := impl.MakeKeys(s, plainToxic())
	if _, ok := impl.QuotientOf(s, make([]int, 11)); !ok {
		t.Error("QuotientOf CountSystem and all 0 is false")
	}
	noProve(t, s, m, make([]int, 11), 5, 7)
	for _, first := range []int{0, 2, 1008} {
		noProve(t, sameRows(3, 1, 2), wordedMaker(sameRows(3, 1, 2), plainToxic()), []int{first, 5, 6}, 5, 7)
	}
}

// oddPoints are of the curve but not of the group, and not of the curve.
func oddPoints() []impl.Point {
	base := impl.Base()
	return []impl.Point{
		{}, at(2, 2979), at(12106, 5115), wordedPointAdd(base, impl.Point{}), curveRound[allPoints/3], curveRound[allPoints/12], curveRound[1009*5],
		at(1, 1), at(base.X, base.Y+1), at(base.X+12107, base.Y), at(base.X, base.Y+12107), at(base.X, base.Y-12107), {X: base.X, Y: base.Y, Zero: true}, {X: 1, Zero: true}, {Y: 1, Zero: true}, at(-1, -1), at(math.MinInt, math.MaxInt),
	}
}

// Of a Maker's points nothing is asked: those that are not of the group are put together as they are, those that are not right are Zero.
func TestProveWithOddPoints(t *testing.T) {
	for _, p := range []proven{{impl.CountSystem(), wordedWitness(5)}, {puzzleSystem(), []int{1, 6, 3, 9}}, {sameRows(3, 1, 2), []int{1, 7, 1008}}} {
		m, _ := impl.MakeKeys(p.s, plainToxic())
		for _, point := range append(oddPoints(), zeroPoint(), impl.Base()) {
			for _, blind := range [][]int{{5, 7}, {1008, 1008}} {
				for place := range 4 {
					odd := makerCopy(m)
					*keyPoint(&odd.Keys, place) = point
					checkProve(t, p.s, odd, p.w, blind[0], blind[1], wordedProve(p.s, odd, p.w, blind[0], blind[1]))
				}
				for which := range 4 {
					for at := range *makerList(&m, which) {
						odd := makerCopy(m)
						(*makerList(&odd, which))[at] = point
						checkProve(t, p.s, odd, p.w, blind[0], blind[1], wordedProve(p.s, odd, p.w, blind[0], blind[1]))
					}
				}
			}
		}
	}
}

// sizedMaker has one point in all places.
func sizedMaker(s impl.System, point impl.Point) impl.Maker {
	m := impl.Maker{Keys: impl.Keys{Alpha: point, Beta: point, Gamma: point, Delta: point, Inputs: slices.Repeat([]impl.Point{point}, s.Public+1)}}
	m.Us, m.Vs = slices.Repeat([]impl.Point{point}, s.Wires), slices.Repeat([]impl.Point{point}, s.Wires)
	m.Ls, m.Zs = slices.Repeat([]impl.Point{point}, s.Wires-s.Public-1), slices.Repeat([]impl.Point{point}, len(s.Rows)-1)
	return m
}

// What is proven with keys of Zero alone is Zero, and right for nobody.
func TestKeysOfZero(t *testing.T) {
	zeros := impl.Proof{A: zeroPoint(), B: zeroPoint(), C: zeroPoint()}
	for _, p := range manyProven() {
		m := sizedMaker(p.s, zeroPoint())
		checkProve(t, p.s, m, p.w, 5, 7, zeros)
		checkProofOk(t, m.Keys, p.public(), zeros, false)
		own, _ := impl.MakeKeys(p.s, plainToxic())
		proof, _ := impl.ProveWith(p.s, own, p.w, 5, 7)
		for _, other := range []impl.Proof{proof, {A: impl.Base(), B: impl.Base(), C: zeroPoint()}, {A: impl.Base(), B: impl.PointNeg(impl.Base()), C: impl.Base()}} {
			checkProofOk(t, m.Keys, p.public(), other, false)
			checkProofOk(t, sizedMaker(p.s, impl.Point{}).Keys, p.public(), other, false)
			checkProofOk(t, sizedMaker(p.s, at(1, 1)).Keys, p.public(), other, false)
		}
		for _, point := range append(oddPoints(), impl.Base()) {
			odd := sizedMaker(p.s, point)
			checkProve(t, p.s, odd, p.w, 5, 7, wordedProve(p.s, odd, p.w, 5, 7))
			checkProve(t, p.s, odd, p.w, 1008, 1008, wordedProve(p.s, odd, p.w, 1008, 1008))
		}
		checkProofOk(t, impl.Keys{}, p.public(), proof, false)
		checkProofOk(t, own.Keys, p.public(), impl.Proof{}, false)
		checkProofOk(t, own.Keys, p.public(), zeros, false)
	}
}

// missingC makes with A and B of so often Base what the keys ask for.
func missingC(k impl.Keys, public []int, a int, b int) impl.Point {
	told := wordedPairPower(k.Alpha, k.Beta) + wordedPairPower(wordedInputSum(k, public), k.Gamma)
	return groupPoints[wordedBy(a*b-told, groupLogs[k.Delta])]
}

// Of the keys ProofOk asks nothing: a point that is Zero, not of the group or not right makes a pair that says nothing, and what the other pairs say is right.
func TestProofOkWithOddKeys(t *testing.T) {
	s, public := impl.CountSystem(), []int{5, 2}
	m, _ := impl.MakeKeys(s, plainToxic())
	own, _ := impl.ProveWith(s, m, wordedWitness(5), 5, 7)
	for _, point := range append(oddPoints(), zeroPoint()) {
		for place := range 7 {
			k := withKeyPoint(m.Keys, place, point)
			checkProofOk(t, k, public, own, false)
			checkInputSum(t, k, public)
			if place == 3 {
				continue
			}
			p := impl.Proof{A: groupPoints[3], B: groupPoints[4], C: missingC(k, public, 3, 4)}
			checkProofOk(t, k, public, p, true)
			checkProofOk(t, k, public, withPoint(p, 2, wordedPointAdd(p.C, impl.Base())), false)
		}
		// Without Gamma any numbers are right, without Delta any C.
		k := withKeyPoint(m.Keys, 2, point)
		p := impl.Proof{A: groupPoints[3], B: groupPoints[4], C: missingC(k, public, 3, 4)}
		for _, other := range [][]int{{0, 0}, {5, 3}, {1008, 1008}} {
			checkProofOk(t, k, other, p, true)
		}
		checkProofOk(t, k, []int{5, 1009}, p, false)
		checkProofOk(t, k, []int{5}, p, false)
		k = withKeyPoint(m.Keys, 3, point)
		told := wordedScalarOf(wordedPairPower(k.Alpha, k.Beta) + wordedPairPower(wordedInputSum(k, public), k.Gamma))
		for _, c := range []int{0, 1, 77, 1008} {
			checkProofOk(t, k, public, impl.Proof{A: groupPoints[1], B: groupPoints[told], C: groupPoints[c]}, true)
			checkProofOk(t, k, public, impl.Proof{A: groupPoints[2], B: groupPoints[told], C: groupPoints[c]}, false)
		}
		checkProofOk(t, k, public, impl.Proof{A: groupPoints[1], B: groupPoints[told], C: at(2, 2979)}, false)
	}
}

// In each place of a proof a point that is not of the group, or not right, is refused, though its pair would say nothing.
func TestProofOkOfOddProofs(t *testing.T) {
	for _, p := range manyProven()[:4] {
		m, _ := impl.MakeKeys(p.s, plainToxic())
		own, _ := impl.ProveWith(p.s, m, p.w, 5, 7)
		checkProofOk(t, m.Keys, p.public(), own, true)
		for part := range 3 {
			for _, point := range notKeys() {
				if point == zeroPoint() {
					continue
				}
				checkProofOk(t, m.Keys, p.public(), withPoint(own, part, point), false)
			}
			for _, low := range oddPoints() {
				if onTheCurve(low) {
					checkProofOk(t, m.Keys, p.public(), withPoint(own, part, wordedPointAdd(proofList(own)[part], low)), false)
				}
			}
		}
	}
	// Here all pairs are 1 but for what is asked of A, B and C.
	k := sizedMaker(sameRows(1, 0, 1), zeroPoint()).Keys
	for _, point := range append(oddPoints(), zeroPoint(), impl.Base()) {
		checkProofOk(t, k, nil, impl.Proof{A: point, B: impl.Base(), C: impl.Base()}, false)
		checkProofOk(t, k, nil, impl.Proof{A: impl.Base(), B: point, C: impl.Base()}, false)
		checkProofOk(t, k, nil, impl.Proof{A: point, B: point, C: point}, false)
	}
}

// With one point of the group for another, a proof is right for no other A or B or C.
func TestProofOkOfOtherPoints(t *testing.T) {
	s, w := puzzleSystem(), []int{1, 6, 3, 9}
	m, _ := impl.MakeKeys(s, plainToxic())
	own, _ := impl.ProveWith(s, m, w, 5, 7)
	for part := range 3 {
		for _, point := range groupPoints {
			checkProofOk(t, m.Keys, []int{6}, withPoint(own, part, point), point == proofList(own)[part])
		}
	}
	// A and B may change places, as their pair is the same.
	checkProofOk(t, m.Keys, []int{6}, impl.Proof{A: own.B, B: own.A, C: own.C}, true)
	checkProofOk(t, m.Keys, []int{6}, impl.Proof{A: impl.PointNeg(own.A), B: impl.PointNeg(own.B), C: own.C}, true)
	checkProofOk(t, m.Keys, []int{6}, impl.Proof{A: own.A, B: own.C, C: own.B}, false)
	for place := range 6 {
		for often := range 200 {
			k := withKeyPoint(m.Keys, place, groupPoints[often*5])
			checkProofOk(t, k, []int{6}, own, *keyPoint(&k, place) == *keyPoint(&m.Keys, place))
		}
	}
}

func TestInputSumOfManyNumbers(t *testing.T) {
	s := impl.CountSystem()
	m, _ := impl.MakeKeys(s, plainToxic())
	for _, n := range append(scalarEdges(), scalarEnds()...) {
		for _, public := range [][]int{{n, 2}, {5, n}, {n, n}} {
			checkInputSum(t, m.Keys, public)
		}
	}
	for count := range 30 {
		inputs := scatteredPoints(uint64(count)+887, count+1)
		checkInputSum(t, impl.Keys{Inputs: inputs}, scatteredScalars(uint64(count)+907, count))
		checkInputSum(t, impl.Keys{Inputs: inputs}, scatteredScalars(uint64(count)+907, count+1))
		checkInputSum(t, impl.Keys{Inputs: inputs[:count]}, scatteredScalars(uint64(count)+907, count))
	}
	// The first one is not multiplied, and no other point of the keys is looked at.
	k := impl.Keys{Alpha: at(1, 1), Beta: at(1, 1), Gamma: at(1, 1), Delta: at(1, 1), Inputs: []impl.Point{groupPoints[900], groupPoints[50], groupPoints[2]}}
	if got := impl.InputSum(k, []int{3, 4}); got != groupPoints[900+150+8-1009] {
		t.Errorf("InputSum of 900, 50 and 2 times Base and of 3 and 4 = %v, want 49 times Base", got)
	}
	if got := impl.InputSum(impl.Keys{Inputs: k.Inputs[:1]}, nil); got != groupPoints[900] {
		t.Errorf("InputSum of one Input = %v, want it", got)
	}
}

func TestInputSumOfOddPoints(t *testing.T) {
	for _, point := range append(oddPoints(), zeroPoint()) {
		for place := range 4 {
			for _, public := range [][]int{{1, 1, 1}, {0, 0, 0}, {2, 1009, -1}, {12, 1008, math.MinInt}, {5, 6, math.MaxInt}} {
				k := withKeyPoint(impl.Keys{Inputs: pointsBy([]int{5, 6, 7, 8})}, 4+place, point)
				checkInputSum(t, k, public)
			}
		}
		checkInputSum(t, impl.Keys{Inputs: []impl.Point{impl.Base(), point}}, []int{3})
	}
}

// isProofText asks both ways.
func isProofText(t *testing.T, p impl.Proof, want string) {
	t.Helper()
	if got, ok := impl.ProofText(p); got != want || !ok {
		t.Errorf("ProofText(%v) = %x, %v, want %x, true", p, got, ok, want)
	}
	if got, ok := impl.ReadProof(want); got != p || !ok {
		t.Errorf("ReadProof(%x) = %v, %v, want %v, true", want, got, ok, p)
	}
}

func noProofText(t *testing.T, p impl.Proof) {
	t.Helper()
	if got, ok := impl.ProofText(p); got != "" || ok {
		t.Errorf("ProofText(%v) = %x, %v, want nothing, false", p, got, ok)
	}
}

func noReadProof(t *testing.T, text string) {
	t.Helper()
	if got, ok := impl.ReadProof(text); got != (impl.Proof{}) || ok {
		t.Errorf("ReadProof(%.100x) = %v, %v, want the zero Proof, false", text, got, ok)
	}
}

func wordedProofText(p impl.Proof) string {
	return wordedPointText(p.A) + wordedPointText(p.B) + wordedPointText(p.C)
}

// partsByText has each point that may stand in a proof at its text.
func partsByText() map[string]impl.Point {
	parts := keysByText()
	parts[wordedPointText(zeroPoint())] = zeroPoint()
	return parts
}

// checkReadProof is of any text; whether it was read is told.
func checkReadProof(t *testing.T, parts map[string]impl.Point, text string) bool {
	t.Helper()
	list := []impl.Point{}
	for from := 0; from+3 <= len(text) && len(text) == 9; from += 3 {
		if p, ok := parts[text[from:from+3]]; ok {
			list = append(list, p)
		}
	}
	if len(list) != 3 {
		noReadProof(t, text)
		return false
	}
	isProofText(t, proofOf(list), text)
	return true
}

func TestProofTextOfEveryPoint(t *testing.T) {
	own := impl.Proof{A: groupPoints[3], B: groupPoints[4], C: groupPoints[5]}
	for often, point := range groupPoints {
		for part := range 3 {
			p := withPoint(own, part, point)
			isProofText(t, p, wordedProofText(p))
		}
		p := impl.Proof{A: point, B: groupPoints[(often*7+1)%1009], C: groupPoints[(often*often+5)%1009]}
		isProofText(t, p, wordedProofText(p))
	}
}

// Zero has a text in all places, though no proof with it for A or B is right.
func TestProofTextOfZero(t *testing.T) {
	zero := zeroPoint()
	isProofText(t, impl.Proof{A: zero, B: zero, C: zero}, strings.Repeat("\x00", 9))
	isProofText(t, impl.Proof{A: zero, B: impl.Base(), C: zero}, "\x00\x00\x00\x20\xfe\x01\x00\x00\x00")
	noProofText(t, impl.Proof{})
}

// A point that is not of the group has a text, but no proof has it.
func TestProofTextOfOddPoints(t *testing.T) {
	own := impl.Proof{A: groupPoints[3], B: groupPoints[4], C: groupPoints[5]}
	for part := range 3 {
		for _, point := range append(notKeys(), oddPoints()...) {
			if point == zeroPoint() {
				continue
			}
			p := withPoint(own, part, point)
			noProofText(t, p)
			if onTheCurve(point) {
				noReadProof(t, wordedProofText(p))
			}
		}
	}
	for _, point := range everyPoint() {
		_, ok := groupLogs[point]
		if p := (impl.Proof{A: point, B: point, C: point}); ok {
			isProofText(t, p, wordedProofText(p))
		} else {
			noProofText(t, p)
			noReadProof(t, wordedProofText(p))
		}
	}
}

func TestReadProofOfTextsWithOneOtherByte(t *testing.T) {
	parts := partsByText()
	for _, p := range []impl.Proof{
		{A: groupPoints[3], B: groupPoints[4], C: groupPoints[5]}, {A: groupPoints[1], B: groupPoints[1008], C: zeroPoint()}, {A: zeroPoint(), B: zeroPoint(), C: zeroPoint()},
	} {
		text := wordedProofText(p)
		taken := 0
		for place := range text {
			for n := range 256 {
				turned := []byte(text)
				turned[place] = byte(n)
				if checkReadProof(t, parts, string(turned)) {
					taken++
				}
			}
		}
		// Each byte may be what it is.
		if taken < len(text) {
			t.Errorf("of %x with one other byte %d were read", text, taken)
		}
	}
}

func TestReadProofOfOtherLengths(t *testing.T) {
	p := impl.Proof{A: groupPoints[3], B: groupPoints[4], C: groupPoints[5]}
	text, zeros := wordedProofText(p), strings.Repeat("\x00", 9)
	for size := range 9 {
		noReadProof(t, text[:size])
		noReadProof(t, text[9-size:])
		noReadProof(t, zeros[:size])
	}
	for _, more := range []string{"\x00", "\x01", " ", text[:1], text[:3], "\x00\x00\x00", text} {
		noReadProof(t, text+more)
		noReadProof(t, more+text)
		noReadProof(t, zeros+more)
	}
	noReadProof(t, "")
	noReadProof(t, text[:6])
	noReadProof(t, text+text[:3])
	noReadProof(t, strings.Repeat(text, 1000))
	noReadProof(t, "042b012626001c9f01")
}

func TestReadProofOfScatteredTexts(t *testing.T) {
	parts := partsByText()
	texts := []string{}
	for _, p := range groupPoints {
		texts = append(texts, wordedPointText(p))
	}
	for i, n := range scatteredScalars(911, 5000) {
		number := uint64(n)
		whole := []byte{}
		for shift := range 8 {
			whole = append(whole, byte(number>>(8*shift)))
		}
		checkReadProof(t, parts, string(append(whole, byte(i%3))))
		mixed := texts[number>>10%1009] + string([]byte{byte(number >> 40 % 48), byte(number >> 20), byte(i % 2)}) + texts[number>>30%1009]
		checkReadProof(t, parts, mixed)
	}
}

// The points of what is proven come back from its text as they were.
func TestProofsComeBack(t *testing.T) {
	for _, p := range manyProven() {
		m, _ := impl.MakeKeys(p.s, plainToxic())
		for z := range 20 {
			proof, _ := impl.ProveWith(p.s, m, p.w, z*50, z*z)
			isProofText(t, proof, wordedProofText(proof))
		}
	}
}

// roomyMaker has room behind each of its lists.
func roomyMaker(m impl.Maker) impl.Maker {
	for which := range 5 {
		*makerList(&m, which) = roomyPoints(*makerList(&m, which))
	}
	return m
}

// wholeMaker is a copy with what stands in the room behind its lists.
func wholeMaker(m impl.Maker) impl.Maker {
	for which := range 5 {
		list := *makerList(&m, which)
		*makerList(&m, which) = slices.Clone(list[:len(list)+2])
	}
	return m
}

func spoilPoints(list []impl.Point) {
	whole := list[:cap(list)]
	for i := range whole {
		whole[i] = at(-77, -77)
	}
}

func TestProofsLeaveTheirListsAsTheyWere(t *testing.T) {
	for _, plain := range append(manyProven(), proven{impl.CountSystem(), []int{1}}, proven{impl.CountSystem(), wordedWitness(5)[:10]}, proven{sameRows(3, 3, 2), []int{1, 2, 3}}) {
		own := sizedMaker(sameRows(11, 2, 10), impl.Base())
		if made, ok := impl.MakeKeys(plain.s, plainToxic()); ok {
			own = made
		}
		s, w, m := roomySystem(plain.s), roomyNumbers(plain.w), roomyMaker(own)
		public := roomyNumbers(plain.w[min(1, len(plain.w)):min(plain.s.Public+1, len(plain.w))])
		told := slices.Clone(public[:len(public)+2])
		before, kept := wholeSystem(s), wholeMaker(m)
		made, ok := impl.MakeKeys(s, plainToxic())
		if ok != impl.ToxicOk(s, plainToxic()) || ok != wordedSystemOk(plain.s) || ok && !sameMaker(made, own) {
			t.Errorf("with room behind its lists MakeKeys(%v) = %v, %v", plain.s, made, ok)
		}
		for _, list := range makerLists(made) {
			spoilPoints(list)
		}
		p, ok := impl.ProveWith(s, m, w, 5, 7)
		if want, right := impl.ProveWith(plain.s, own, plain.w, 5, 7); ok != right || p != want || ok != wordedSatisfied(plain.s, plain.w) {
			t.Errorf("with room behind its lists ProveWith(%v) = %v, %v, want %v, %v", plain, p, ok, want, right)
		}
		fake, _ := impl.FakeProof(s, plainToxic(), public, 3, 4)
		if want, _ := impl.FakeProof(plain.s, plainToxic(), told[:len(public)], 3, 4); fake != want {
			t.Errorf("with room behind its lists FakeProof(%v) = %v, want %v", plain, fake, want)
		}
		if impl.InputSum(m.Keys, public) != wordedInputSum(own.Keys, told[:len(public)]) || impl.ProofOk(m.Keys, public, p) != wordedProofOk(own.Keys, told[:len(public)], p) {
			t.Errorf("with room behind its lists %v has another InputSum or ProofOk", plain)
		}
		if !reflect.DeepEqual(wholeSystem(s), before) || !sameMaker(wholeMaker(m), kept) {
			t.Errorf("the system is %v, was %v; the Maker is %v, was %v", wholeSystem(s), before, wholeMaker(m), kept)
		}
		if !slices.Equal(w[:len(w)+2], slices.Concat(plain.w, []int{-7, -9})) || !slices.Equal(public[:len(public)+2], told) {
			t.Errorf("the witness is %v, was %v; told is %v, was %v", w[:len(w)+2], plain.w, public[:len(public)+2], told)
		}
	}
}

func TestMakersAreNewMemory(t *testing.T) {
	for _, p := range manyProven() {
		first, _ := impl.MakeKeys(p.s, plainToxic())
		second, _ := impl.MakeKeys(p.s, plainToxic())
		all := append(makerLists(first), makerLists(second)...)
		for i := range all {
			for j := range i {
				if listsShare(all[i], all[j]) {
					t.Errorf("of %v lists %d and %d share memory", p.s, j, i)
				}
			}
		}
		for _, list := range makerLists(first) {
			spoilPoints(list)
		}
		if !sameMaker(second, wordedMaker(p.s, plainToxic())) {
			t.Errorf("of %v one Maker was spoilt with the other", p.s)
		}
		text, _ := impl.ProofText(impl.Proof{A: impl.Base(), B: impl.Base(), C: impl.Base()})
		again, _ := impl.ProofText(impl.Proof{A: impl.Base(), B: impl.Base(), C: impl.Base()})
		if shares(text, again) {
			t.Error("two texts of a proof share memory")
		}
	}
}

// An empty list and nil are the same value in all places.
func TestProofsOfEmptyLists(t *testing.T) {
	s := sameRows(1, 0, 1)
	m, ok := impl.MakeKeys(s, plainToxic())
	if !ok || len(m.Ls) != 0 || len(m.Zs) != 0 || len(m.Us) != 1 || len(m.Vs) != 1 || len(m.Keys.Inputs) != 1 {
		t.Errorf("MakeKeys of one wire and one row = %v, %v", m, ok)
	}
	want := wordedProof(s, plainToxic(), []int{1}, 5, 7)
	for _, none := range [][]impl.Point{nil, {}} {
		m.Ls, m.Zs = none, none
		checkProve(t, s, m, []int{1}, 5, 7, want)
		odd := m
		odd.Us = none
		noProve(t, s, odd, []int{1}, 5, 7)
		odd = m
		odd.Vs = none
		noProve(t, s, odd, []int{1}, 5, 7)
	}
	for _, none := range [][]int{nil, {}} {
		checkProofOk(t, m.Keys, none, want, true)
		checkInputSum(t, m.Keys, none)
		checkFake(t, s, plainToxic(), none, 3, 4)
		noProve(t, s, m, none, 5, 7)
	}
	checkProofOk(t, impl.Keys{}, nil, impl.Proof{}, false)
	checkInputSum(t, impl.Keys{}, nil)
	noProve(t, impl.System{}, impl.Maker{}, nil, 0, 0)
	noFake(t, impl.System{}, impl.Toxic{}, nil, 0, 0)
	noKeys(t, impl.System{}, impl.Toxic{})
}

// What is done to an answer is not in the next one, and what is refused leaves nothing behind.
func TestProofAnswersComeAgain(t *testing.T) {
	s, x, w := impl.CountSystem(), plainToxic(), impl.CountWitness(5)
	want := wordedProof(s, x, w, 5, 7)
	for range 3 {
		checkKeys(t, s, x)
		m, _ := impl.MakeKeys(s, x)
		checkProve(t, s, m, w, 5, 7, want)
		checkProofOk(t, m.Keys, []int{5, 2}, want, true)
		checkProofOk(t, m.Keys, []int{5, 3}, want, false)
		noProve(t, s, m, withNumber(w, 2, 3), 5, 7)
		noFake(t, s, x, []int{5}, 3, 4)
		checkFake(t, s, x, []int{5, 3}, 3, 4)
		noKeys(t, s, impl.Toxic{})
		isProofText(t, want, wordedProofText(want))
		noReadProof(t, "")
		for _, list := range makerLists(m) {
			spoilPoints(list)
		}
	}
}
