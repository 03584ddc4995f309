package tests

import (
	"math"
	"math/big"
	"reflect"
	"slices"
	"testing"

	"loop.example/g00321/impl"
)

// wordedMixed puts the products together place by place, by numbers of any size; what the other list has nothing for is left out.
func wordedMixed(list [][]int, w []int) []int {
	sums := []*big.Int{}
	for at := 0; at < len(list) && at < len(w); at++ {
		for place, n := range list[at] {
			if place == len(sums) {
				sums = append(sums, new(big.Int))
			}
			sums[place].Add(sums[place], new(big.Int).Mul(big.NewInt(int64(n)), big.NewInt(int64(w[at]))))
		}
	}
	made := []int{}
	for _, sum := range sums {
		made = append(made, wordedScalar(sum))
	}
	return wordedTrim(made)
}

// wordedZero is x less 1, x less 2 and so on, times one another.
func wordedZero(rows int) []int {
	zero := []int{1}
	for x := 1; x <= rows; x++ {
		zero = wordedProduct(zero, []int{-x, 1})
	}
	return zero
}

// wordedRows is what the rows say by themselves: the first number of the witness may be any.
func wordedRows(s impl.System, w []int) bool {
	if !wordedSystemOk(s) || !wordedScalars(w, s.Wires) {
		return false
	}
	for _, row := range s.Rows {
		if !wordedRow(row, w) {
			return false
		}
	}
	return true
}

// qapPlaces are those at which a system is asked for.
func qapPlaces(s impl.System) []int {
	rows := len(s.Rows)
	return []int{0, 1, 2, rows - 1, rows, rows + 1, 77, 1008, 1009, 1010, 1009 + rows, -1, -rows, -1009, math.MinInt, math.MaxInt}
}

// qapLists are the lists of a Qap, by their places in it.
func qapLists(q impl.Qap) [][][]int {
	return [][][]int{q.U, q.V, q.W}
}

// checkQap asks for what one list of numbers alone is: no more numbers than rows, and at 1, 2 and so on what the rows have.
func checkQap(t *testing.T, s impl.System) {
	t.Helper()
	q, ok := impl.QapOf(s)
	if want := wordedSystemOk(s); ok != want {
		t.Errorf("QapOf(%v) = %v, want %v", s, ok, want)
	}
	if !ok {
		if len(q.U) != 0 || len(q.V) != 0 || len(q.W) != 0 {
			t.Errorf("QapOf(%v) = %v beside false", s, q)
		}
		return
	}
	for side, list := range qapLists(q) {
		if len(list) != s.Wires {
			t.Fatalf("QapOf(%v): side %d has %d polynomials, want %d", s, side, len(list), s.Wires)
		}
		for wire, poly := range list {
			if !trimmedList(poly) || len(poly) > len(s.Rows) {
				t.Errorf("QapOf(%v): side %d has %v of wire %d", s, side, poly, wire)
			}
			for at := range s.Rows {
				want := (*sideOf(&s.Rows[at], side))[wire]
				if got := impl.PolyAt(poly, at+1); got != want || wordedPolyAt(poly, at+1) != want {
					t.Errorf("QapOf(%v): side %d of wire %d is %d at %d, want %d", s, side, wire, got, at+1, want)
				}
			}
		}
	}
}

// checkQuotient asks for what one list alone is: it times PolyZero, put to W Mixed, is the product of U and V Mixed.
func checkQuotient(t *testing.T, s impl.System, w []int, want bool) {
	t.Helper()
	quotient, ok := impl.QuotientOf(s, w)
	if ok != want || wordedRows(s, w) != want {
		t.Errorf("QuotientOf(%v, %v) = %v, want %v", s, w, ok, want)
	}
	if !ok {
		if len(quotient) != 0 {
			t.Errorf("QuotientOf(%v, %v) = %v beside false", s, w, quotient)
		}
		return
	}
	q, _ := impl.QapOf(s)
	product := wordedProduct(wordedMixed(q.U, w), wordedMixed(q.V, w))
	whole := wordedPolyAdd(wordedProduct(quotient, wordedZero(len(s.Rows))), wordedMixed(q.W, w))
	if !trimmedList(quotient) || !slices.Equal(whole, product) {
		t.Errorf("QuotientOf(%v, %v) = %v, which makes %v, want %v", s, w, quotient, whole, product)
	}
	own := impl.PolyAdd(impl.PolyMul(quotient, impl.PolyZero(len(s.Rows))), impl.Mixed(q.W, w))
	if !slices.Equal(own, impl.PolyMul(impl.Mixed(q.U, w), impl.Mixed(q.V, w))) {
		t.Errorf("QuotientOf(%v, %v) = %v, which PolyMul, PolyAdd and Mixed make %v", s, w, quotient, own)
	}
}

func checkHolds(t *testing.T, s impl.System, w []int, want bool) {
	t.Helper()
	for _, x := range qapPlaces(s) {
		if got := impl.QapHolds(s, w, x); got != want {
			t.Errorf("QapHolds(%v, %v, %d) = %v, want %v", s, w, x, got, want)
		}
	}
}

// checkBoth asks all that is told of a system and a witness.
func checkBoth(t *testing.T, s impl.System, w []int, want bool) {
	t.Helper()
	checkQuotient(t, s, w, want)
	checkHolds(t, s, w, want)
}

// checkAsSatisfied is of a witness whose first number is 1, so that Satisfied has nothing of its own to say.
func checkAsSatisfied(t *testing.T, s impl.System, w []int) {
	t.Helper()
	want := impl.Satisfied(s, w)
	if _, ok := impl.QuotientOf(s, w); ok != want || wordedSatisfied(s, w) != want {
		t.Errorf("QuotientOf(%v, %v) = %v, but Satisfied = %v", s, w, ok, want)
	}
	if got := impl.QapHolds(s, w, 77); got != want {
		t.Errorf("QapHolds(%v, %v, 77) = %v, but Satisfied = %v", s, w, got, want)
	}
}

// noQap is of a system that is not right, with what satisfied it before it was turned wrong.
func noQap(t *testing.T, s impl.System, w []int) {
	t.Helper()
	checkSystemOk(t, s, false)
	checkQap(t, s)
	for _, list := range [][]int{w, oneAndZeros(s.Wires % 100), make([]int, len(w)), {1}, {}, nil} {
		checkBoth(t, s, list, false)
	}
}

func checkMixed(t *testing.T, list [][]int, w []int) {
	t.Helper()
	got := impl.Mixed(list, w)
	if want := wordedMixed(list, w); !slices.Equal(got, want) || !trimmedList(got) {
		t.Errorf("Mixed(%.300v, %.300v) = %.300v, want %.300v", list, w, got, want)
	}
}

// puzzleSystem has the wires 1, n, m and m times m; n is m times m less m.
func puzzleSystem() impl.System {
	return impl.System{Wires: 4, Public: 1, Rows: []impl.Row{
		{A: []int{0, 0, 1, 0}, B: []int{0, 0, 1, 0}, C: []int{0, 0, 0, 1}},
		{A: []int{0, 0, 1008, 1}, B: []int{1, 0, 0, 0}, C: []int{0, 1, 0, 0}},
	}}
}

func TestQapOfCountSystem(t *testing.T) {
	s := impl.CountSystem()
	checkQap(t, s)
	q, ok := impl.QapOf(s)
	if !ok || len(q.U) != 11 || len(q.V) != 11 || len(q.W) != 11 {
		t.Errorf("QapOf CountSystem = %v, %v", q, ok)
	}
}

// The numbers were worked out apart from the program.
func TestQapForms(t *testing.T) {
	for _, form := range []struct {
		s    impl.System
		want impl.Qap
	}{
		{impl.System{Wires: 1, Rows: []impl.Row{{A: []int{2}, B: []int{3}, C: []int{6}}}}, impl.Qap{U: [][]int{{2}}, V: [][]int{{3}}, W: [][]int{{6}}}},
		{sameRows(2, 1, 3), impl.Qap{U: [][]int{{}, {}}, V: [][]int{{}, {}}, W: [][]int{{}, {}}}},
		{puzzleSystem(), impl.Qap{
			U: [][]int{{}, {}, {3, 1007}, {1008, 1}},
			V: [][]int{{1008, 1}, {}, {2, 1008}, {}},
			W: [][]int{{}, {1008, 1}, {}, {2, 1008}},
		}},
	} {
		q, ok := impl.QapOf(form.s)
		if !ok || !slices.EqualFunc(qapLists(q), qapLists(form.want), samePolys) {
			t.Errorf("QapOf(%v) = %v, %v, want %v", form.s, q, ok, form.want)
		}
	}
	q, _ := impl.QapOf(impl.CountSystem())
	for _, form := range []struct{ got, want []int }{
		{q.U[0], []int{9, 731, 147, 936, 542, 645, 634, 592, 226, 583}}, {q.U[1], nil}, {q.U[2], nil}, {q.U[3], []int{10, 273, 565, 998, 55, 837, 54, 693, 353, 199}},
		{q.V[3], []int{19, 1004, 712, 925, 597, 473, 688, 276, 579, 782}}, {q.V[10], []int{225, 810, 582, 542, 301, 710, 731, 1003, 236, 914}}, {q.V[0], nil},
		{q.W[0], nil}, {q.W[1], []int{10, 152, 421, 704, 929, 661, 860, 174, 352, 782}}, {q.W[2], []int{1008, 579, 735, 232, 622, 993, 783, 418, 883, 810}},
		{impl.Mixed(q.U, wordedWitness(5)), []int{139, 164, 909, 469, 228, 653, 433, 796, 372, 883}},
		{impl.Mixed(q.V, wordedWitness(5)), []int{178, 342, 301, 490, 530, 254, 620, 901, 645, 785}},
		{impl.Mixed(q.W, wordedWitness(5)), []int{178, 342, 301, 490, 530, 254, 620, 901, 645, 785}},
	} {
		if !slices.Equal(form.got, form.want) {
			t.Errorf("of CountSystem %v, want %v", form.got, form.want)
		}
	}
}

func samePolys(a [][]int, b [][]int) bool {
	return slices.EqualFunc(a, b, slices.Equal[[]int])
}

func TestQapOfSystemsOfAllSizes(t *testing.T) {
	for wires := 1; wires <= 20; wires++ {
		for rows := 1; rows <= 16; rows++ {
			w := lowWitness(uint64(wires*100+rows)+3, wires)
			s := settledSystem(uint64(rows*100+wires)+5, wires-1, rows, w)
			checkQap(t, s)
			checkQap(t, sameRows(wires, 0, rows))
			if wires%3 == 2 || rows > 14 || rows < 3 {
				checkQuotient(t, s, w, true)
				checkQuotient(t, sameRows(wires, 0, rows), w, true)
			}
		}
	}
}

func TestQapOfSystemsThatAreNotRight(t *testing.T) {
	for _, wires := range []int{-1, 0, 1, 2, 19, 20, 21, 22} {
		for _, public := range []int{-1, 0, wires - 1, wires} {
			for _, rows := range []int{0, 1, 15, 16, 17, 18} {
				s := sameRows(wires, public, rows)
				want := wordedSystemOk(s)
				checkQap(t, s)
				checkQuotient(t, s, oneAndZeros(wires), want)
				if got := impl.QapHolds(s, oneAndZeros(wires), 5); got != want {
					t.Errorf("QapHolds of %d wires, %d told, and %d rows = %v, want %v", wires, public, rows, got, want)
				}
			}
		}
	}
}

// Each system is right but for one thing.
func TestQapOfEachWrongThing(t *testing.T) {
	w := lowWitness(17, 5)
	right := settledSystem(19, 2, 4, w)
	checkBoth(t, right, w, true)
	for _, n := range []int{math.MinInt, -1, 0, 4, 6, 21, 1 << 32, 1<<32 + 5, math.MaxInt} {
		s := systemCopy(right)
		s.Wires = n
		noQap(t, s, w)
	}
	for _, n := range []int{math.MinInt, -1, 5, 6, 1 << 32, math.MaxInt} {
		s := systemCopy(right)
		s.Public = n
		noQap(t, s, w)
	}
	for _, rows := range [][]impl.Row{nil, {}, slices.Repeat(right.Rows, 4)[:15:15], append(slices.Repeat(right.Rows, 4), right.Rows[0]), slices.Repeat(right.Rows, 5)} {
		s := impl.System{Wires: 5, Public: 2, Rows: rows}
		if len(rows) == 15 {
			checkBoth(t, s, w, true)
			continue
		}
		noQap(t, s, w)
	}
	for at := range right.Rows {
		for side := range 3 {
			list := *sideOf(&right.Rows[at], side)
			for _, wrong := range [][]int{nil, {}, list[:4], append(slices.Clone(list), 0), withNumber(list, 4, list[4]+1009), withNumber(list, 0, list[0]-1009), withNumber(list, 2, -1), withNumber(list, 2, 1009), withNumber(list, 2, math.MinInt), withNumber(list, 2, math.MaxInt)} {
				noQap(t, withSide(right, at, side, wrong), w)
			}
		}
		bare := systemCopy(right)
		bare.Rows[at] = impl.Row{}
		noQap(t, bare, w)
	}
}

func TestQuotientOfMaxRows(t *testing.T) {
	for _, wires := range []int{1, 2, 11, 20} {
		w := lowWitness(uint64(wires)+23, wires)
		for _, rows := range []int{0, 1, 2, 15, 16, 17, 18, 64} {
			s := settledSystem(uint64(rows)+29, 0, rows, w)
			if rows < 1 || rows > 16 {
				noQap(t, s, w)
				continue
			}
			checkQap(t, s)
			checkBoth(t, s, w, true)
			quotient, _ := impl.QuotientOf(s, w)
			if len(quotient) > rows-1 {
				t.Errorf("of %d rows the quotient has %d numbers", rows, len(quotient))
			}
		}
	}
}

func TestQuotientOfEveryCount(t *testing.T) {
	s := impl.CountSystem()
	for bits := range 256 {
		w := impl.CountWitness(bits)
		checkQuotient(t, s, w, true)
		checkAsSatisfied(t, s, w)
		if bits%16 == 5 {
			checkHolds(t, s, w, true)
		}
	}
}

// The numbers were worked out apart from the program.
func TestQuotientForms(t *testing.T) {
	for _, form := range []struct {
		s       impl.System
		w, want []int
		ok      bool
	}{
		{impl.CountSystem(), wordedWitness(0), nil, true},
		{impl.CountSystem(), wordedWitness(1), []int{459, 489, 311, 168, 822, 101, 684, 297, 70}, true},
		{impl.CountSystem(), wordedWitness(5), []int{945, 107, 1004, 504, 516, 341, 119, 347, 981}, true},
		{impl.CountSystem(), wordedWitness(128), []int{696, 416, 57, 131, 392, 813, 275, 535, 624}, true},
		{impl.CountSystem(), wordedWitness(202), []int{7, 196, 134, 688, 1003, 446, 542, 615, 712}, true},
		{impl.CountSystem(), wordedWitness(255), nil, true},
		{impl.CountSystem(), []int{1, 5, 3, 1, 0, 1, 0, 0, 0, 0, 0}, nil, false},
		{puzzleSystem(), []int{1, 0, 0, 0}, nil, true}, {puzzleSystem(), []int{1, 0, 1, 1}, nil, true}, {puzzleSystem(), []int{1, 20, 5, 25}, []int{949}, true},
		{puzzleSystem(), []int{1, 992, 32, 15}, []int{510}, true}, {puzzleSystem(), []int{1, 2, 1008, 1}, []int{6}, true}, {puzzleSystem(), []int{1, 47, 33, 80}, []int{561}, true},
		{puzzleSystem(), []int{1, 20, 5, 26}, nil, false}, {puzzleSystem(), []int{1, 21, 5, 25}, nil, false}, {puzzleSystem(), []int{0, 20, 5, 25}, nil, false},
		{puzzleSystem(), []int{0, 0, 5, 25}, []int{934}, true}, {puzzleSystem(), []int{2, 40, 5, 25}, []int{964}, true},
		{impl.System{Wires: 1, Rows: []impl.Row{{A: []int{2}, B: []int{3}, C: []int{6}}}}, []int{1}, nil, true},
		{impl.System{Wires: 1, Rows: []impl.Row{{A: []int{2}, B: []int{3}, C: []int{6}}}}, []int{0}, nil, true},
		{impl.System{Wires: 1, Rows: []impl.Row{{A: []int{2}, B: []int{3}, C: []int{6}}}}, []int{2}, nil, false},
	} {
		if got, ok := impl.QuotientOf(form.s, form.w); ok != form.ok || !slices.Equal(got, form.want) {
			t.Errorf("QuotientOf(%v, %v) = %v, %v, want %v, %v", form.s, form.w, got, ok, form.want, form.ok)
		}
		checkBoth(t, form.s, form.w, form.ok)
	}
}

func TestQapHoldsAtEveryPlace(t *testing.T) {
	right := impl.CountWitness(202)
	wrong := withNumber(right, 2, 5)
	for x := -3; x < 1012; x++ {
		if !impl.QapHolds(impl.CountSystem(), right, x) || impl.QapHolds(impl.CountSystem(), wrong, x) {
			t.Errorf("at %d QapHolds of a witness and of one that is none = %v, %v", x, impl.QapHolds(impl.CountSystem(), right, x), impl.QapHolds(impl.CountSystem(), wrong, x))
		}
		if !impl.QapHolds(puzzleSystem(), []int{1, 20, 5, 25}, x) || impl.QapHolds(puzzleSystem(), []int{1, 21, 5, 25}, x) {
			t.Errorf("of the puzzle QapHolds is wrong at %d", x)
		}
	}
	for _, x := range scalarEdges() {
		if !impl.QapHolds(impl.CountSystem(), right, x) || impl.QapHolds(impl.CountSystem(), wrong, x) {
			t.Errorf("QapHolds is wrong at %d", x)
		}
	}
}

// One number turned breaks one row or several; a wire that no row has may be any.
func TestQuotientWithANumberTurned(t *testing.T) {
	s := impl.CountSystem()
	for bits := 0; bits < 256; bits += 17 {
		w := wordedWitness(bits)
		for at := 1; at < len(w); at++ {
			for _, n := range []int{0, 1, 2, w[at] + 1, 504, 1008} {
				checkAsSatisfied(t, s, withNumber(w, at, n))
			}
		}
	}
	w := lowWitness(37, 7)
	other := settledSystem(41, 3, 4, w)
	for at := range other.Rows {
		for side := range 3 {
			(*sideOf(&other.Rows[at], side))[6] = 0
		}
		other.Rows[at] = settled(other.Rows[at], w)
	}
	for at := 1; at < len(w); at++ {
		for n := 0; n < 1009; n += 7 {
			checkAsSatisfied(t, other, withNumber(w, at, n))
		}
		checkBoth(t, other, withNumber(w, at, (w[at]+1)%1009), at == 6)
	}
}

// Rows of which one is not so: wherever it stands, something is left.
func TestQuotientWithARowThatIsNotSo(t *testing.T) {
	for _, rows := range []int{1, 2, 3, 10, 15, 16} {
		w := lowWitness(uint64(rows)+43, 6)
		s := settledSystem(uint64(rows)+47, 2, rows, w)
		checkBoth(t, s, w, true)
		for at := range s.Rows {
			for _, by := range []int{1, 504, 1008} {
				c := s.Rows[at].C
				turned := withSide(s, at, 2, withNumber(c, 0, wordedScalarOf(c[0]+by)))
				checkQap(t, turned)
				checkBoth(t, turned, w, false)
			}
		}
	}
}

// Several rows that are not so do not make up for one another.
func TestQuotientWithRowsThatAreNotSo(t *testing.T) {
	w := lowWitness(53, 4)
	s := settledSystem(59, 1, 5, w)
	for broken := range 32 {
		turned := systemCopy(s)
		for at := range turned.Rows {
			if broken>>at%2 == 1 {
				by := []int{1, 1008}[at%2]
				turned.Rows[at].C[0] = wordedScalarOf(turned.Rows[at].C[0] + by)
			}
		}
		checkBoth(t, turned, w, broken == 0)
		checkAsSatisfied(t, turned, w)
	}
}

// The rows in another order have another quotient, and hold as well.
func TestQuotientOfRowsTurnedRound(t *testing.T) {
	s := impl.CountSystem()
	slices.Reverse(s.Rows)
	checkQap(t, s)
	for bits := range 16 {
		checkBoth(t, s, wordedWitness(bits), true)
		checkBoth(t, s, withNumber(wordedWitness(bits), 2, 9), false)
	}
	w := lowWitness(61, 6)
	other := settledSystem(67, 2, 6, w)
	for range other.Rows {
		other.Rows = append(other.Rows[1:], other.Rows[0])
		checkQap(t, other)
		checkBoth(t, other, w, true)
	}
}

// Satisfied asks for a 1 at the beginning; a quotient is there for any number that the rows hold for.
func TestQuotientOfAnotherFirstNumber(t *testing.T) {
	s := impl.CountSystem()
	for _, first := range []int{0, 1, 2, 504, 1008} {
		for _, bits := range []int{0, 1, 90, 255} {
			w := wordedWitness(bits)
			w[0], w[1], w[2] = first, wordedScalarOf(first*w[1]), wordedScalarOf(first*w[2])
			checkBoth(t, s, w, true)
			if got := impl.Satisfied(s, w); got != (first == 1) {
				t.Errorf("Satisfied by %v = %v", w, got)
			}
			checkBoth(t, s, withNumber(w, 1, (w[1]+1)%1009), false)
		}
		checkBoth(t, sameRows(3, 0, 2), []int{first, 7, 1008}, true)
	}
	checkBoth(t, s, make([]int, 11), true)
}

func TestQuotientOfEdgesInAWitness(t *testing.T) {
	for _, wires := range []int{1, 2, 11, 20} {
		anything := sameRows(wires, 0, 3)
		w := lowWitness(uint64(wires)+71, wires)
		settledRows := settledSystem(uint64(wires)+73, 0, 3, w)
		checkBoth(t, anything, w, true)
		checkBoth(t, settledRows, w, true)
		for place, right := range w {
			for _, n := range []int{math.MinInt, -1009, -1, 1009, 1010, right + 1009, right - 1009, math.MaxInt} {
				checkBoth(t, anything, withNumber(w, place, n), false)
				checkBoth(t, settledRows, withNumber(w, place, n), false)
			}
			for _, n := range []int{0, 1, 1007, 1008} {
				checkBoth(t, anything, withNumber(w, place, n), true)
				turned := withNumber(w, place, n)
				checkBoth(t, settledRows, turned, wordedRows(settledRows, turned))
			}
		}
	}
}

func TestQuotientOfWitnessesOfOtherLengths(t *testing.T) {
	for _, wires := range []int{1, 2, 11, 20} {
		w := lowWitness(uint64(wires)+79, wires)
		for _, s := range []impl.System{sameRows(wires, 0, 2), settledSystem(uint64(wires)+83, 0, 16, w)} {
			checkBoth(t, s, w, true)
			for _, list := range [][]int{nil, {}, w[:wires-1], append(slices.Clone(w), 0), append(slices.Clone(w), 1), slices.Concat(w, w)} {
				checkBoth(t, s, list, false)
			}
		}
	}
	for _, bits := range []int{-1, 256, math.MinInt, math.MaxInt} {
		checkBoth(t, impl.CountSystem(), impl.CountWitness(bits), false)
	}
}

func TestQapOfNothing(t *testing.T) {
	noQap(t, impl.System{}, nil)
	for _, list := range [][]int{nil, {}} {
		row := impl.Row{A: list, B: list, C: list}
		for _, wires := range []int{-1, 0, 1, 2, 20, 21} {
			noQap(t, impl.System{Wires: wires, Rows: []impl.Row{row}}, list)
			noQap(t, impl.System{Wires: wires, Rows: []impl.Row{row, row}}, oneAndZeros(wires))
			noQap(t, impl.System{Wires: wires, Rows: nil}, list)
			noQap(t, impl.System{Wires: wires, Rows: []impl.Row{}}, oneAndZeros(wires))
		}
		for side := range 3 {
			noQap(t, withSide(impl.CountSystem(), 9, side, list), wordedWitness(5))
		}
	}
}

// The numbers were worked out apart from the program.
func TestMixedForms(t *testing.T) {
	for _, form := range []struct {
		list    [][]int
		w, want []int
	}{
		{nil, nil, nil}, {nil, []int{1, 2}, nil}, {[][]int{}, []int{}, nil}, {[][]int{{1, 2}}, nil, nil}, {[][]int{nil, {}}, []int{1, 2}, nil},
		{[][]int{{1, 2, 3}, {4, 5}}, []int{2, 3}, []int{14, 19, 6}}, {[][]int{{4, 5}, {1, 2, 3}}, []int{3, 2}, []int{14, 19, 6}},
		{[][]int{{1, 2, 3}, {4, 5}}, []int{2}, []int{2, 4, 6}}, {[][]int{{1, 2, 3}}, []int{2, 3}, []int{2, 4, 6}}, {[][]int{{1}, {0, 1}, {0, 0, 1}}, []int{7, 8, 9}, []int{7, 8, 9}},
		{[][]int{{1, 2}, {1, 2}}, []int{1, -1}, nil}, {[][]int{{5, 1}, {0, 1008, 0}}, []int{1, 1}, []int{5}}, {[][]int{{1, 1, 1, 0, 0}}, []int{1010}, []int{1, 1, 1}},
		{[][]int{{1, 2}, {3}}, []int{0, 0}, nil}, {[][]int{{1, 2}, {3}}, []int{1009, -1009}, nil}, {[][]int{{1, 2}, {3}}, []int{0, 1}, []int{3}}, {[][]int{{1009, 0}, {-1009}}, []int{5, 5}, nil},
		{[][]int{{math.MaxInt, math.MinInt}, {math.MinInt}}, []int{math.MinInt, math.MaxInt}, []int{313, 540}},
	} {
		if got := impl.Mixed(form.list, form.w); !slices.Equal(got, form.want) {
			t.Errorf("Mixed(%v, %v) = %v, want %v", form.list, form.w, got, form.want)
		}
		checkMixed(t, form.list, form.w)
	}
}

func TestMixedOfAllCounts(t *testing.T) {
	polys := manyPolys()
	for _, count := range []int{0, 1, 2, 3, 19, 20, 21, 64, 65, len(polys)} {
		for _, size := range []int{0, 1, 2, 3, 19, 20, 21, 64, 65, 200} {
			for _, w := range [][]int{lowScalars(89, size), scatteredScalars(97, size), make([]int, size), slices.Repeat([]int{1008}, size), slices.Repeat([]int{math.MinInt}, size), slices.Repeat([]int{math.MaxInt}, size)} {
				checkMixed(t, polys[:count], w)
				checkMixed(t, polys[len(polys)-count:], w)
			}
		}
	}
}

func TestMixedOfEdges(t *testing.T) {
	for _, n := range scalarEdges() {
		for _, often := range scalarEdges() {
			checkMixed(t, [][]int{{n}}, []int{often})
			checkMixed(t, [][]int{{1, n}, {n, 0, n}}, []int{often, 3})
			checkMixed(t, [][]int{{5, n}, nil, {n, n, n}}, []int{2, 1, often})
		}
	}
}

// A polynomial of any length is mixed: only PolyMul and PolyDivide have a limit, and neither is named there.
func TestMixedOfLongLists(t *testing.T) {
	for _, length := range []int{63, 64, 65, 66, 127, 128, 1000, 5000} {
		long, other := scatteredScalars(101, length), lowScalars(103, length)
		checkMixed(t, [][]int{long}, []int{1})
		checkMixed(t, [][]int{long}, []int{-3})
		checkMixed(t, [][]int{long, other}, []int{7, 1008})
		checkMixed(t, [][]int{{1}, long, {2, 3}, other}, []int{4, 5, 6, 7})
		checkMixed(t, [][]int{{1}, long}, []int{4})
		checkMixed(t, [][]int{append(make([]int, length-1), 1), {5}}, []int{9, 9})
		checkMixed(t, [][]int{append([]int{5}, make([]int, length-1)...)}, []int{9})
		checkMixed(t, [][]int{make([]int, length), slices.Repeat([]int{-1009}, length)}, []int{9, 9})
		if got := impl.Mixed([][]int{append(make([]int, length-1), 1)}, []int{6}); len(got) != length || got[length-1] != 6 {
			t.Errorf("Mixed of one with %d numbers has %d", length, len(got))
		}
	}
}

// Many polynomials, one of them long: all are put together in one go.
func TestMixedOfManyPolynomials(t *testing.T) {
	polys, w := [][]int{lowScalars(107, 20000)}, lowScalars(109, 20000)
	for len(polys) < len(w) {
		polys = append(polys, []int{len(polys), 1})
	}
	checkMixed(t, polys, w)
}

// What ends in 0 when all are together is cut there.
func TestMixedThatEndsInNought(t *testing.T) {
	for length := 1; length <= 10; length++ {
		for left := range length + 1 {
			list := [][]int{slices.Repeat([]int{5}, length), append(make([]int, left), slices.Repeat([]int{2}, length-left)...), {0, 0}}
			// 2 times 5 and 1004 times 2 are 0 together.
			want := slices.Repeat([]int{10}, left)
			if got := impl.Mixed(list, []int{2, 1004, 9}); !slices.Equal(got, want) {
				t.Errorf("Mixed(%v) = %v, want %v", list, got, want)
			}
			checkMixed(t, list, []int{2, -5, 9})
		}
	}
}

// Mixed with a witness, a system's polynomials go through what its rows have of it.
func TestMixedGoesThroughTheRows(t *testing.T) {
	for _, rows := range []int{1, 5, 16} {
		w := lowWitness(uint64(rows)+113, 9)
		s := settledSystem(uint64(rows)+127, 3, rows, w)
		q, _ := impl.QapOf(s)
		for side, list := range qapLists(q) {
			ys := []int{}
			for at := range s.Rows {
				ys = append(ys, wordedDot(*sideOf(&s.Rows[at], side), w))
			}
			if got := impl.Mixed(list, w); !slices.Equal(got, impl.PolyThrough(ys)) {
				t.Errorf("of %d rows side %d Mixed = %v, want %v", rows, side, got, impl.PolyThrough(ys))
			}
		}
	}
}

// roomyPolys has room behind each list and behind all of them.
func roomyPolys(list [][]int) [][]int {
	whole := [][]int{}
	for _, poly := range list {
		whole = append(whole, roomyNumbers(poly))
	}
	whole = append(whole, []int{-7}, []int{-9})
	return whole[:len(list)]
}

// wholePolys is a copy with what stands in the room behind the lists.
func wholePolys(list [][]int) [][]int {
	whole := [][]int{}
	for at, poly := range list[:len(list)+2] {
		if at < len(list) {
			poly = poly[:len(poly)+2]
		}
		whole = append(whole, slices.Clone(poly))
	}
	return whole
}

// mixedLists are lists of polynomials of all kinds.
func mixedLists() [][][]int {
	q, _ := impl.QapOf(impl.CountSystem())
	return [][][]int{nil, {}, {nil}, {{}, {1, 2, 0}}, {{5, 1009, -3}}, {{1}, {2, 3}, {4, 5, 6}}, {lowScalars(131, 70), {1}}, {{1}, lowScalars(137, 70)}, q.U, q.V, q.W, manyPolys()}
}

func TestMixedLeavesItsListsAsTheyWere(t *testing.T) {
	for _, plain := range mixedLists() {
		for _, numbers := range [][]int{nil, {}, {1}, {0, 0}, {1009, -5, 3}, wordedWitness(5), lowScalars(139, 200)} {
			list, w := roomyPolys(plain), roomyNumbers(numbers)
			before := wholePolys(list)
			got := impl.Mixed(list, w)
			if !slices.Equal(got, wordedMixed(plain, numbers)) {
				t.Errorf("with room behind its lists Mixed(%v, %v) = %v", plain, numbers, got)
			}
			for _, poly := range list[:len(list)+2] {
				if listsShare(got, poly) {
					t.Errorf("Mixed(%v, %v) shares memory with what was handed in", plain, numbers)
				}
			}
			if listsShare(got, w) {
				t.Errorf("Mixed(%v, %v) shares memory with its numbers", plain, numbers)
			}
			spoil(got)
			if !samePolys(wholePolys(list), before) || !slices.Equal(w[:len(w)+2], slices.Concat(numbers, []int{-7, -9})) {
				t.Errorf("the lists are %v, %v, were %v, %v", wholePolys(list), w[:len(w)+2], before, numbers)
			}
		}
	}
}

// keptSystems are right ones and wrong ones.
func keptSystems() []impl.System {
	w := lowWitness(149, 11)
	return []impl.System{
		impl.CountSystem(), settledSystem(151, 4, 16, w), settledSystem(157, 0, 1, w), sameRows(11, 3, 2), sameRows(1, 0, 1), settledSystem(163, 19, 16, lowWitness(167, 20)),
		sameRows(11, 11, 3), {Wires: 11}, withSide(impl.CountSystem(), 4, 1, []int{1, 2}), settledSystem(173, 4, 17, w), {},
	}
}

func TestQapLeavesItsSystemAsItWas(t *testing.T) {
	for _, plain := range keptSystems() {
		for _, list := range [][]int{lowWitness(149, 11), wordedWitness(5), {1}, {1, 1009, -1}, {}} {
			s, w := roomySystem(plain), roomyNumbers(list)
			before := wholeSystem(s)
			q, right := impl.QapOf(s)
			quotient, ok := impl.QuotientOf(s, w)
			holds := impl.QapHolds(s, w, 9)
			if right != wordedSystemOk(plain) || ok != wordedRows(plain, list) || holds != ok {
				t.Errorf("with room behind its lists %v of %v is %v, %v, %v", plain, list, right, ok, holds)
			}
			for _, polys := range qapLists(q) {
				for _, poly := range polys {
					spoil(poly)
				}
				clear(polys[:cap(polys)])
			}
			spoil(quotient)
			if !reflect.DeepEqual(wholeSystem(s), before) {
				t.Errorf("the system is %v, was %v", wholeSystem(s), before)
			}
			if !slices.Equal(w[:len(w)+2], slices.Concat(list, []int{-7, -9})) {
				t.Errorf("the witness is %v, was %v", w[:len(w)+2], list)
			}
		}
	}
}

func TestQapAnswersAreNewMemory(t *testing.T) {
	for _, plain := range keptSystems() {
		s := roomySystem(plain)
		w := roomyNumbers(lowWitness(149, 11))
		q, _ := impl.QapOf(s)
		again, _ := impl.QapOf(s)
		quotient, _ := impl.QuotientOf(s, w)
		answers := [][]int{quotient, impl.Mixed(q.U, w), impl.Mixed(q.U, w)}
		for _, polys := range append(qapLists(q), qapLists(again)...) {
			answers = append(answers, polys...)
		}
		handed := [][]int{w}
		for at := range s.Rows {
			handed = append(handed, s.Rows[at].A, s.Rows[at].B, s.Rows[at].C)
		}
		for i, answer := range answers {
			for _, other := range handed {
				if listsShare(answer, other) {
					t.Errorf("of %v answer %d shares memory with what was handed in", plain, i)
				}
			}
			for j := range i {
				if listsShare(answer, answers[j]) {
					t.Errorf("of %v answers %d and %d share memory", plain, j, i)
				}
			}
		}
		whole := append(qapLists(q), qapLists(again)...)
		for i := range whole {
			for j := range i {
				if listsShare(whole[i], whole[j]) {
					t.Errorf("of %v lists %d and %d share memory", plain, j, i)
				}
			}
		}
	}
}

// What is done to an answer is not in the next one, and what is refused leaves nothing behind.
func TestQapAnswersComeAgain(t *testing.T) {
	s, w := impl.CountSystem(), impl.CountWitness(5)
	for range 3 {
		checkQap(t, s)
		checkBoth(t, s, w, true)
		q, _ := impl.QapOf(s)
		quotient, _ := impl.QuotientOf(s, w)
		for _, polys := range qapLists(q) {
			for _, poly := range polys {
				spoil(poly)
			}
			clear(polys[:cap(polys)])
		}
		spoil(quotient)
		spoil(impl.Mixed([][]int{{1, 2}}, []int{3}))
		checkMixed(t, [][]int{{1, 2}}, []int{3})
		noQap(t, withSide(s, 3, 2, nil), w)
		checkBoth(t, s, withNumber(w, 2, 3), false)
	}
}

// A list may stand in several places: in several rows, on several sides, and for the witness itself.
func TestQapOfSharedLists(t *testing.T) {
	for _, list := range [][]int{{1, 0, 0}, {1, 1, 1008}, {1, 2, 3}, {0, 0, 0}} {
		s := impl.System{Wires: 3, Rows: []impl.Row{{A: list, B: list, C: list}, {A: list, B: list, C: list}}}
		checkQap(t, s)
		checkBoth(t, s, list, wordedRows(s, list))
		checkMixed(t, [][]int{list, list, list}, list)
	}
}
