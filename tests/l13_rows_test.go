package tests

import (
	"math"
	"math/big"
	"reflect"
	"slices"
	"testing"

	"loop.example/g00321/impl"
)

// wordedScalars are as many numbers as are asked for, each in 0 .. OrderR - 1.
func wordedScalars(list []int, count int) bool {
	for _, n := range list {
		if n < 0 || n > 1008 {
			return false
		}
	}
	return len(list) == count
}

func wordedSystemOk(s impl.System) bool {
	ok := s.Wires >= 1 && s.Wires <= 20 && s.Public >= 0 && s.Public <= s.Wires-1 && len(s.Rows) >= 1 && len(s.Rows) <= 16
	for _, row := range s.Rows {
		ok = ok && wordedScalars(row.A, s.Wires) && wordedScalars(row.B, s.Wires) && wordedScalars(row.C, s.Wires)
	}
	return ok
}

// wordedRow multiplies both sums, by numbers of any size, and brings both sides into 0 .. OrderR - 1 at the end alone.
func wordedRow(row impl.Row, w []int) bool {
	var sums [3]big.Int
	for side, list := range [][]int{row.A, row.B, row.C} {
		for i := range w {
			sums[side].Add(&sums[side], big.NewInt(int64(list[i])*int64(w[i])))
		}
	}
	return wordedScalar(new(big.Int).Mul(&sums[0], &sums[1])) == wordedScalar(&sums[2])
}

func wordedSatisfied(s impl.System, w []int) bool {
	if !wordedSystemOk(s) || !wordedScalars(w, s.Wires) || w[0] != 1 {
		return false
	}
	for _, row := range s.Rows {
		if !wordedRow(row, w) {
			return false
		}
	}
	return true
}

func wordedCount(bits int) int {
	count := 0
	for _, figure := range big.NewInt(int64(bits)).Text(2) {
		if figure == '1' {
			count++
		}
	}
	return count
}

// wordedWitness is of bits in 0 .. 255.
func wordedWitness(bits int) []int {
	w := []int{1, bits, wordedCount(bits)}
	for range 8 {
		w = append(w, bits%2)
		bits /= 2
	}
	return w
}

// writtenCountSystem is the document's system written out, number by number.
func writtenCountSystem() impl.System {
	return impl.System{Wires: 11, Public: 2, Rows: []impl.Row{
		bitRowAt(3), bitRowAt(4), bitRowAt(5), bitRowAt(6), bitRowAt(7), bitRowAt(8), bitRowAt(9), bitRowAt(10),
		{
			A: []int{1, 0, 0, 0, 0, 0, 0, 0, 0, 0, 0},
			B: []int{0, 0, 0, 1, 2, 4, 8, 16, 32, 64, 128},
			C: []int{0, 1, 0, 0, 0, 0, 0, 0, 0, 0, 0},
		},
		{
			A: []int{1, 0, 0, 0, 0, 0, 0, 0, 0, 0, 0},
			B: []int{0, 0, 0, 1, 1, 1, 1, 1, 1, 1, 1},
			C: []int{0, 0, 1, 0, 0, 0, 0, 0, 0, 0, 0},
		},
	}}
}

// bitRowAt says of one of 11 wires that it times itself is it.
func bitRowAt(at int) impl.Row {
	row := impl.Row{A: make([]int, 11), B: make([]int, 11), C: make([]int, 11)}
	row.A[at], row.B[at], row.C[at] = 1, 1, 1
	return row
}

// lowScalars are so many numbers in 0 .. OrderR - 1, others for each start.
func lowScalars(start uint64, count int) []int {
	list := scatteredScalars(start, count)
	for i, n := range list {
		// The lowest bits of such numbers come again soon.
		list[i] = int(uint(n) >> 20 % 1009)
	}
	return list
}

// lowWitness has 1 ahead of scattered numbers.
func lowWitness(start uint64, wires int) []int {
	return append([]int{1}, lowScalars(start, wires-1)...)
}

// settled is the row whose first number of C is such that it holds for w.
func settled(row impl.Row, w []int) impl.Row {
	c := slices.Clone(row.C)
	c[0] = 0
	rest := big.NewInt(int64(wordedDot(row.A, w) * wordedDot(row.B, w)))
	c[0] = wordedScalar(rest.Sub(rest, big.NewInt(int64(wordedDot(c, w)))))
	row.C = c
	return row
}

// settledSystem has scattered rows that hold for w.
func settledSystem(start uint64, public int, rows int, w []int) impl.System {
	s := impl.System{Wires: len(w), Public: public}
	for i := range rows {
		from := start + uint64(i)*1000003
		row := impl.Row{A: lowScalars(from+1, len(w)), B: lowScalars(from+2, len(w)), C: lowScalars(from+3, len(w))}
		s.Rows = append(s.Rows, settled(row, w))
	}
	return s
}

// sameRows has one row so often, which 1 and anything satisfies: all of it is 0.
func sameRows(wires int, public int, rows int) impl.System {
	s := impl.System{Wires: wires, Public: public}
	for range rows {
		s.Rows = append(s.Rows, impl.Row{A: make([]int, max(wires, 0)), B: make([]int, max(wires, 0)), C: make([]int, max(wires, 0))})
	}
	return s
}

// oneAndZeros is a witness of so many wires.
func oneAndZeros(wires int) []int {
	w := make([]int, max(wires, 0))
	if len(w) > 0 {
		w[0] = 1
	}
	return w
}

// systemCopy shares nothing with s.
func systemCopy(s impl.System) impl.System {
	rows := []impl.Row{}
	for _, row := range s.Rows {
		rows = append(rows, impl.Row{A: slices.Clone(row.A), B: slices.Clone(row.B), C: slices.Clone(row.C)})
	}
	s.Rows = rows
	return s
}

// sideOf is the list of a row, by its place in the struct.
func sideOf(row *impl.Row, side int) *[]int {
	return []*[]int{&row.A, &row.B, &row.C}[side]
}

// withSide is s but for one side of one row.
func withSide(s impl.System, at int, side int, list []int) impl.System {
	s = systemCopy(s)
	*sideOf(&s.Rows[at], side) = list
	return s
}

// withNumber is the list but for one number.
func withNumber(list []int, at int, n int) []int {
	list = slices.Clone(list)
	list[at] = n
	return list
}

func checkSystemOk(t *testing.T, s impl.System, want bool) {
	t.Helper()
	if got := impl.SystemOk(s); got != want || wordedSystemOk(s) != want {
		t.Errorf("SystemOk(%v) = %v, want %v", s, got, want)
	}
}

func checkSatisfied(t *testing.T, s impl.System, w []int, want bool) {
	t.Helper()
	if got := impl.Satisfied(s, w); got != want || wordedSatisfied(s, w) != want {
		t.Errorf("Satisfied(%v, %v) = %v, want %v", s, w, got, want)
	}
}

// wrongSystem is satisfied by nothing, not even by what satisfied it before it was turned wrong.
func wrongSystem(t *testing.T, s impl.System, w []int) {
	t.Helper()
	checkSystemOk(t, s, false)
	for _, list := range [][]int{w, oneAndZeros(s.Wires % 100), {1}, {}, nil} {
		checkSatisfied(t, s, list, false)
	}
}

func TestSystemLimits(t *testing.T) {
	if impl.MaxWires != 20 || impl.MaxRows != 16 {
		t.Errorf("MaxWires = %d, MaxRows = %d, want 20, 16", impl.MaxWires, impl.MaxRows)
	}
}

func TestCountSystemAsWritten(t *testing.T) {
	got := impl.CountSystem()
	if want := writtenCountSystem(); !reflect.DeepEqual(got, want) {
		t.Errorf("CountSystem() = %v, want %v", got, want)
	}
	checkSystemOk(t, got, true)
	if got.Wires != len(impl.CountWitness(0)) || got.Public != len(impl.PublicOf(0)) {
		t.Errorf("CountSystem has %d wires, %d told, want %d, %d", got.Wires, got.Public, len(impl.CountWitness(0)), len(impl.PublicOf(0)))
	}
}

func TestCountWitnessOfEveryNumber(t *testing.T) {
	s := impl.CountSystem()
	for bits := range 256 {
		w := impl.CountWitness(bits)
		if want := wordedWitness(bits); !slices.Equal(w, want) {
			t.Errorf("CountWitness(%d) = %v, want %v", bits, w, want)
		}
		checkSatisfied(t, s, w, true)
	}
}

func TestPublicOfEveryNumber(t *testing.T) {
	for bits := range 256 {
		want := []int{bits, wordedCount(bits)}
		if got := impl.PublicOf(bits); !slices.Equal(got, want) {
			t.Errorf("PublicOf(%d) = %v, want %v", bits, got, want)
		}
		if w := impl.CountWitness(bits); !slices.Equal(w[1:3], want) || impl.CountBits(bits) != want[1] {
			t.Errorf("CountWitness(%d) = %v does not tell %v", bits, w, want)
		}
	}
}

// The numbers were written down by hand.
func TestWitnessForms(t *testing.T) {
	for _, form := range [][]int{
		{1, 0, 0, 0, 0, 0, 0, 0, 0, 0, 0},
		{1, 1, 1, 1, 0, 0, 0, 0, 0, 0, 0},
		{1, 5, 2, 1, 0, 1, 0, 0, 0, 0, 0},
		{1, 128, 1, 0, 0, 0, 0, 0, 0, 0, 1},
		{1, 202, 4, 0, 1, 0, 1, 0, 0, 1, 1},
		{1, 254, 7, 0, 1, 1, 1, 1, 1, 1, 1},
		{1, 255, 8, 1, 1, 1, 1, 1, 1, 1, 1},
	} {
		if got := impl.CountWitness(form[1]); !slices.Equal(got, form) {
			t.Errorf("CountWitness(%d) = %v, want %v", form[1], got, form)
		}
		if got := impl.PublicOf(form[1]); !slices.Equal(got, form[1:3]) {
			t.Errorf("PublicOf(%d) = %v, want %v", form[1], got, form[1:3])
		}
		checkSatisfied(t, impl.CountSystem(), form, true)
	}
}

// bitsOutside are no bits of a committee's members.
func bitsOutside() []int {
	return []int{-1, -2, -255, -256, 256, 257, 511, 512, 1009, 1 << 32, 1<<32 + 5, math.MinInt, math.MinInt + 1, math.MaxInt, math.MaxInt - 1}
}

func TestCountWitnessOutside(t *testing.T) {
	for _, bits := range bitsOutside() {
		w := impl.CountWitness(bits)
		if len(w) != 0 {
			t.Errorf("CountWitness(%d) = %v, want nothing", bits, w)
		}
		checkSatisfied(t, impl.CountSystem(), w, false)
	}
}

// CountBits of such numbers is 0.
func TestPublicOfOutside(t *testing.T) {
	for _, bits := range bitsOutside() {
		if got := impl.PublicOf(bits); !slices.Equal(got, []int{bits, 0}) {
			t.Errorf("PublicOf(%d) = %v, want %d and 0", bits, got, bits)
		}
	}
}

func TestAnotherNumberIsNoWitness(t *testing.T) {
	s := impl.CountSystem()
	others := []int{0, 1, 2, 3, 4, 8, 127, 128, 254, 255, 256, 504, 505, 1007, 1008, 1009, 1010, -1, -2, math.MinInt, math.MaxInt}
	for bits := range 256 {
		w := wordedWitness(bits)
		for at, right := range w {
			for _, n := range append(others, right-1, right+1, right-1009, right+1009, 1-right) {
				if n == right {
					continue
				}
				if turned := withNumber(w, at, n); impl.Satisfied(s, turned) {
					t.Errorf("Satisfied by %v, in which %d stands for %d at %d", turned, n, right, at)
				}
			}
		}
	}
}

// Every number that a place may have, of some bits.
func TestEveryOtherNumberIsNoWitness(t *testing.T) {
	s := impl.CountSystem()
	for _, bits := range []int{0, 1, 5, 90, 128, 165, 254, 255} {
		w := wordedWitness(bits)
		for at, right := range w {
			for n := range 1009 {
				if got := impl.Satisfied(s, withNumber(w, at, n)); got != (n == right) {
					t.Errorf("of bits %d with %d at %d Satisfied = %v, want %v", bits, n, at, got, n == right)
				}
			}
		}
	}
}

// Bits satisfy the system with what they tell and with nothing that other bits tell.
func TestWitnessTellsItsOwnNumbers(t *testing.T) {
	s := impl.CountSystem()
	for bits := range 256 {
		for told := range 256 {
			w := append(append([]int{1}, impl.PublicOf(told)...), wordedWitness(bits)[3:]...)
			if got := impl.Satisfied(s, w); got != (told == bits) {
				t.Errorf("bits %d with what %d tells: Satisfied = %v, want %v", bits, told, got, told == bits)
			}
		}
	}
}

func TestWitnessWithBothToldTurned(t *testing.T) {
	s := impl.CountSystem()
	for bits := range 256 {
		for count := range 10 {
			for _, packed := range []int{bits, bits ^ 1, bits ^ 128, bits + 1, 1008} {
				w := withNumber(withNumber(wordedWitness(bits), 1, packed), 2, count)
				want := packed == bits && count == wordedCount(bits)
				if got := impl.Satisfied(s, w); got != want {
					t.Errorf("Satisfied(%v) = %v, want %v", w, got, want)
				}
			}
		}
	}
}

// Numbers that are no bits may be packed and counted alike: the rows of the bits refuse them.
func TestWitnessOfWhatIsNoBit(t *testing.T) {
	s := impl.CountSystem()
	for first := range 1009 {
		// The second number is such that both together are 2, then 1.
		w := []int{1, 3, 2, first, 0, 0, 0, 0, 0, 0, 0}
		w[4] = wordedScalarOf(2 - first)
		w[1] = wordedScalarOf(first + 2*w[4])
		checkSatisfied(t, s, w, first == 1)
		w[2] = 1
		w[4] = wordedScalarOf(1 - first)
		w[1] = wordedScalarOf(first + 2*w[4])
		checkSatisfied(t, s, w, first == 0 || first == 1)
	}
}

func TestWitnessesOfOtherLengths(t *testing.T) {
	s := impl.CountSystem()
	for bits := range 256 {
		w := wordedWitness(bits)
		for size := range w {
			checkSatisfied(t, s, w[:size], false)
		}
		for _, more := range [][]int{{0}, {1}, {0, 0}, w} {
			checkSatisfied(t, s, slices.Concat(w, more), false)
		}
	}
}

// Each wire of CountSystem is in its rows: with one number of them turned it says something else, or refuses its witnesses.
func TestEachNumberOfCountSystemCounts(t *testing.T) {
	s := impl.CountSystem()
	for at := range s.Rows {
		for side := range 3 {
			for place, n := range *sideOf(&s.Rows[at], side) {
				turned := withSide(s, at, side, withNumber(*sideOf(&s.Rows[at], side), place, 1-min(n, 1)))
				some := false
				for bits := range 256 {
					want := wordedSatisfied(turned, wordedWitness(bits))
					some = some || !want
					if got := impl.Satisfied(turned, wordedWitness(bits)); got != want {
						t.Errorf("row %d, side %d, place %d turned: Satisfied by bits %d = %v, want %v", at, side, place, bits, got, want)
					}
				}
				if !some {
					t.Errorf("row %d, side %d, place %d may be turned", at, side, place)
				}
			}
		}
	}
}

func TestSystemsOfAllSizes(t *testing.T) {
	for wires := -3; wires <= 24; wires++ {
		for public := -2; public <= 24; public++ {
			for rows := 0; rows <= 19; rows++ {
				s := sameRows(wires, public, rows)
				want := wires >= 1 && wires <= 20 && public >= 0 && public < wires && rows >= 1 && rows <= 16
				checkSystemOk(t, s, want)
				checkSatisfied(t, s, oneAndZeros(wires), want)
			}
		}
	}
}

func TestSystemsOfAbsurdSizes(t *testing.T) {
	w := []int{1, 2, 3}
	for _, n := range []int{math.MinInt, math.MinInt + 1, -1 << 32, -1, 1 << 32, 1<<32 + 1, 1<<32 + 3, math.MaxInt - 1, math.MaxInt} {
		s := settledSystem(5, 1, 2, w)
		checkSatisfied(t, s, w, true)
		s.Public = n
		wrongSystem(t, s, w)
		s.Public = 1
		s.Wires = n
		wrongSystem(t, s, w)
		s.Public = n
		wrongSystem(t, s, w)
	}
}

// Public says which wires are told, and nothing of what is satisfied.
func TestPublicAlone(t *testing.T) {
	for wires := 1; wires <= 20; wires++ {
		w := lowWitness(uint64(wires), wires)
		s := settledSystem(uint64(wires), 0, 3, w)
		for s.Public = 0; s.Public < wires; s.Public++ {
			checkSystemOk(t, s, true)
			checkSatisfied(t, s, w, true)
		}
		for _, public := range []int{-1, wires, wires + 1} {
			s.Public = public
			wrongSystem(t, s, w)
		}
	}
}

func TestRowsOfOtherSystems(t *testing.T) {
	for wires := 1; wires <= 20; wires++ {
		for rows := 1; rows <= 16; rows++ {
			w := lowWitness(uint64(wires*100+rows), wires)
			s := settledSystem(uint64(rows*100+wires), (wires-1)/2, rows, w)
			checkSystemOk(t, s, true)
			checkSatisfied(t, s, w, true)
			for at := range rows {
				for _, by := range []int{1, 504, 1008} {
					c := s.Rows[at].C
					turned := withSide(s, at, 2, withNumber(c, 0, wordedScalarOf(c[0]+by)))
					checkSystemOk(t, turned, true)
					checkSatisfied(t, turned, w, false)
				}
			}
		}
	}
}

// A number of a side or of the witness that is turned: what the products of the rows say.
func TestRowsWithANumberTurned(t *testing.T) {
	w := lowWitness(77, 7)
	w[3], w[5] = 0, 1008
	s := settledSystem(78, 3, 4, w)
	checkSatisfied(t, s, w, true)
	for at := range s.Rows {
		for side := range 3 {
			list := *sideOf(&s.Rows[at], side)
			for place := range list {
				for _, n := range []int{0, 1, list[place], 504, 1008} {
					turned := withSide(s, at, side, withNumber(list, place, n))
					checkSatisfied(t, turned, w, wordedSatisfied(turned, w))
				}
			}
		}
	}
	// What stands at a wire of 0 does not count, while it is a number in 0 .. OrderR - 1.
	for n := range 1009 {
		checkSatisfied(t, withSide(s, 2, 1, withNumber(s.Rows[2].B, 3, n)), w, true)
	}
}

// The products of few small numbers, all of them: of one wire and of two.
func TestSmallSystems(t *testing.T) {
	few := []int{0, 1, 2, 504, 505, 1007, 1008}
	for _, a := range few {
		for _, b := range few {
			for _, c := range few {
				one := impl.System{Wires: 1, Rows: []impl.Row{{A: []int{a}, B: []int{b}, C: []int{c}}}}
				checkSatisfied(t, one, []int{1}, a*b%1009 == c)
				two := impl.System{Wires: 2, Public: 1, Rows: []impl.Row{{A: []int{0, a}, B: []int{b, 1}, C: []int{c, 3}}}}
				for _, n := range few {
					checkSatisfied(t, two, []int{1, n}, a*n*(b+n)%1009 == (c+3*n)%1009)
				}
			}
		}
	}
}

// The numbers were worked out apart from the program: n is n1 times n2 for n2 = n1 less 1, by two rows.
func TestSystemOfAPuzzle(t *testing.T) {
	// Wires: 1, n, n1, n1 times n1.
	s := impl.System{Wires: 4, Public: 1, Rows: []impl.Row{
		{A: []int{0, 0, 1, 0}, B: []int{0, 0, 1, 0}, C: []int{0, 0, 0, 1}},
		{A: []int{0, 0, 1008, 1}, B: []int{1, 0, 0, 0}, C: []int{0, 1, 0, 0}},
	}}
	checkSystemOk(t, s, true)
	for _, w := range [][]int{{1, 0, 0, 0}, {1, 0, 1, 1}, {1, 20, 5, 25}, {1, 992, 32, 1024 - 1009}, {1, 2, 1008, 1}, {1, 47, 33, 80}} {
		checkSatisfied(t, s, w, true)
		for at := range w {
			checkSatisfied(t, s, withNumber(w, at, (w[at]+1)%1009), false)
		}
	}
}

// Greatest numbers in the greatest system: sums of many products.
func TestGreatestSystem(t *testing.T) {
	w := slices.Repeat([]int{1008}, 20)
	w[0] = 1
	row := settled(impl.Row{A: slices.Repeat([]int{1008}, 20), B: slices.Repeat([]int{1008}, 20), C: slices.Repeat([]int{1008}, 20)}, w)
	s := impl.System{Wires: 20, Public: 19, Rows: slices.Repeat([]impl.Row{row}, 16)}
	checkSystemOk(t, s, true)
	checkSatisfied(t, s, w, true)
	for at := range s.Rows {
		checkSatisfied(t, withSide(s, at, 0, withNumber(row.A, 19, 0)), w, false)
	}
	s.Rows = append(s.Rows, row)
	wrongSystem(t, s, w)
	// A wire more, by itself 0 in all rows.
	wide := systemCopy(impl.System{Wires: 21, Public: 19, Rows: s.Rows[:16]})
	for at := range wide.Rows {
		for side := range 3 {
			*sideOf(&wide.Rows[at], side) = append(*sideOf(&wide.Rows[at], side), 0)
		}
	}
	wrongSystem(t, wide, append(slices.Clone(w), 0))
}

func TestSidesOfOtherLengths(t *testing.T) {
	for _, wires := range []int{1, 2, 11, 20} {
		w := lowWitness(uint64(wires)+9, wires)
		for _, rows := range []int{1, 2, 16} {
			s := settledSystem(uint64(rows), 0, rows, w)
			for at := range s.Rows {
				for side := range 3 {
					list := *sideOf(&s.Rows[at], side)
					for _, wrong := range [][]int{nil, {}, list[:wires-1], append(slices.Clone(list), 0), append(slices.Clone(list), 1008), slices.Concat(list, list)} {
						wrongSystem(t, withSide(s, at, side, wrong), w)
					}
				}
				bare := systemCopy(s)
				bare.Rows[at] = impl.Row{}
				wrongSystem(t, bare, w)
			}
		}
	}
}

// Numbers that are the same modulo OrderR do not stand for one another in a side.
func TestSidesOfOtherNumbers(t *testing.T) {
	for _, wires := range []int{1, 5, 20} {
		w := lowWitness(uint64(wires)+19, wires)
		for _, rows := range []int{1, 3, 16} {
			s := settledSystem(uint64(rows)+50, 0, rows, w)
			for at := range s.Rows {
				for side := range 3 {
					list := *sideOf(&s.Rows[at], side)
					for place, n := range list {
						for _, wrong := range []int{-1, -1009, 1009, 1010, n + 1009, n - 1009, -n - 1, math.MinInt, math.MaxInt} {
							wrongSystem(t, withSide(s, at, side, withNumber(list, place, wrong)), w)
						}
						for _, right := range []int{0, 1, 1008} {
							checkSystemOk(t, withSide(s, at, side, withNumber(list, place, right)), true)
						}
					}
				}
			}
		}
	}
}

// Nor in a witness.
func TestWitnessesOfOtherNumbers(t *testing.T) {
	for _, wires := range []int{1, 2, 11, 20} {
		s := sameRows(wires, 0, 2)
		w := lowWitness(uint64(wires)+29, wires)
		checkSatisfied(t, s, w, true)
		for place, n := range w {
			for _, wrong := range []int{-1, -1009, 1009, 1010, n + 1009, n - 1009, -n - 1, math.MinInt, math.MaxInt} {
				checkSatisfied(t, s, withNumber(w, place, wrong), false)
			}
			for _, right := range []int{0, 1, 2, 504, 1007, 1008} {
				checkSatisfied(t, s, withNumber(w, place, right), place > 0 || right == 1)
			}
		}
		for n := range 1009 {
			checkSatisfied(t, s, withNumber(w, 0, n), n == 1)
		}
	}
}

func TestWitnessOfAnotherSystem(t *testing.T) {
	for wires := 1; wires <= 20; wires++ {
		s := sameRows(wires, wires-1, 1)
		for size := range 25 {
			checkSatisfied(t, s, oneAndZeros(size), size == wires)
			checkSatisfied(t, s, slices.Repeat([]int{1}, size), size == wires)
		}
	}
}

func TestNothingInEveryPlace(t *testing.T) {
	for _, rows := range [][]impl.Row{nil, {}} {
		for _, wires := range []int{-1, 0, 1, 2, 11, 20, 21} {
			for public := -1; public <= wires; public++ {
				wrongSystem(t, impl.System{Wires: wires, Public: public, Rows: rows}, oneAndZeros(wires))
			}
		}
	}
	wrongSystem(t, impl.System{}, nil)
	for _, list := range [][]int{nil, {}} {
		row := impl.Row{A: list, B: list, C: list}
		for _, wires := range []int{-1, 0, 1, 2, 20, 21} {
			wrongSystem(t, impl.System{Wires: wires, Rows: []impl.Row{row}}, oneAndZeros(wires))
			wrongSystem(t, impl.System{Wires: wires, Public: -1, Rows: []impl.Row{row, row}}, list)
		}
		checkSatisfied(t, impl.CountSystem(), list, false)
		checkSatisfied(t, sameRows(1, 0, 1), list, false)
		for at := range 10 {
			for side := range 3 {
				wrongSystem(t, withSide(impl.CountSystem(), at, side, list), wordedWitness(5))
			}
		}
	}
}

// Only the whole of the rows is right: a wrong one behind right ones is found, and one that does not hold, wherever it stands.
func TestEachRowCounts(t *testing.T) {
	w := lowWitness(31, 6)
	s := settledSystem(32, 2, 16, w)
	for at := range s.Rows {
		not := systemCopy(s)
		not.Rows[at] = impl.Row{A: []int{1, 0, 0, 0, 0, 0}, B: []int{1, 0, 0, 0, 0, 0}, C: []int{2, 0, 0, 0, 0, 0}}
		checkSystemOk(t, not, true)
		checkSatisfied(t, not, w, false)
		wrong := systemCopy(s)
		wrong.Rows[at].B[5] += 1009
		wrongSystem(t, wrong, w)
	}
}

// roomyNumbers is the list with room behind it, in which two numbers stand.
func roomyNumbers(list []int) []int {
	whole := slices.Concat(list, []int{-7, -9})
	return whole[:len(list)]
}

// roomySystem is s with room behind each of its lists.
func roomySystem(s impl.System) impl.System {
	rows := []impl.Row{}
	for _, row := range s.Rows {
		rows = append(rows, impl.Row{A: roomyNumbers(row.A), B: roomyNumbers(row.B), C: roomyNumbers(row.C)})
	}
	rows = append(rows, impl.Row{A: []int{-7}}, impl.Row{B: []int{-9}})
	s.Rows = rows[:len(s.Rows)]
	return s
}

// wholeSystem is s with what stands in the room behind its lists.
func wholeSystem(s impl.System) impl.System {
	rows := s.Rows
	s.Rows = slices.Clone(rows[:len(rows)+2])
	for at, row := range rows {
		s.Rows[at] = impl.Row{A: row.A[:len(row.A)+2], B: row.B[:len(row.B)+2], C: row.C[:len(row.C)+2]}
	}
	return systemCopy(s)
}

func TestSystemsStayAsTheyWere(t *testing.T) {
	right := lowWitness(61, 9)
	systems := []impl.System{impl.CountSystem(), settledSystem(62, 4, 16, right), sameRows(9, 9, 3), {Wires: 9}, withSide(impl.CountSystem(), 4, 1, []int{1, 2})}
	for _, plain := range systems {
		for _, list := range [][]int{right, wordedWitness(5), {1, 1009, -1}, {}} {
			s, w := roomySystem(plain), roomyNumbers(list)
			before := wholeSystem(s)
			ok, satisfied := impl.SystemOk(s), impl.Satisfied(s, w)
			if ok != wordedSystemOk(plain) || satisfied != wordedSatisfied(plain, list) {
				t.Errorf("with room behind its lists %v is right %v, satisfied %v", plain, ok, satisfied)
			}
			if !reflect.DeepEqual(wholeSystem(s), before) {
				t.Errorf("the system is %v, was %v", wholeSystem(s), before)
			}
			if got, want := w[:len(w)+2], slices.Concat(list, []int{-7, -9}); !slices.Equal(got, want) {
				t.Errorf("the witness is %v, was %v", got, want)
			}
		}
	}
}

// A list of a row, or the witness itself, may stand in several places.
func TestSystemsWithSharedLists(t *testing.T) {
	for _, list := range [][]int{{1, 0, 0}, {1, 1, 1008}, {1, 2, 3}} {
		s := impl.System{Wires: 3, Rows: []impl.Row{{A: list, B: list, C: list}, {A: list, B: list, C: list}}}
		checkSystemOk(t, s, true)
		checkSatisfied(t, s, list, wordedSatisfied(s, list))
	}
}

// spoil writes over a list and over the room behind it.
func spoil(list []int) {
	whole := list[:cap(list)]
	for i := range whole {
		whole[i] = -77
	}
}

func TestSystemAnswersAreNewMemory(t *testing.T) {
	first := impl.CountSystem()
	for at := range first.Rows {
		for side := range 3 {
			spoil(*sideOf(&first.Rows[at], side))
			for other := range first.Rows {
				for beside := range 3 {
					behind := other > at || other == at && beside > side
					list := *sideOf(&first.Rows[other], beside)
					if behind && !slices.Equal(list, *sideOf(&writtenCountSystem().Rows[other], beside)) {
						t.Errorf("row %d, side %d shares memory with row %d, side %d", at, side, other, beside)
					}
				}
			}
		}
	}
	clear(first.Rows[:cap(first.Rows)])
	if got := impl.CountSystem(); !reflect.DeepEqual(got, writtenCountSystem()) {
		t.Errorf("a second CountSystem is %v", got)
	}
	for bits := range 256 {
		w, public := impl.CountWitness(bits), impl.PublicOf(bits)
		spoil(w)
		if !slices.Equal(public, []int{bits, wordedCount(bits)}) {
			t.Errorf("PublicOf(%d) shares memory with CountWitness", bits)
		}
		spoil(public)
		if again, told := impl.CountWitness(bits), impl.PublicOf(bits); !slices.Equal(again, wordedWitness(bits)) || !slices.Equal(told, wordedWitness(bits)[1:3]) {
			t.Errorf("of bits %d a second answer is %v, %v", bits, again, told)
		}
	}
}

func TestSystemAnswersComeAgain(t *testing.T) {
	w := lowWitness(91, 12)
	s := settledSystem(92, 5, 7, w)
	for range 3 {
		checkSatisfied(t, s, w, true)
		wrongSystem(t, withSide(s, 3, 2, nil), w)
		checkSatisfied(t, s, withNumber(w, 4, (w[4]+1)%1009), false)
		checkSatisfied(t, impl.CountSystem(), impl.CountWitness(202), true)
	}
}
