package tests

import (
	"math"
	"math/big"
	"slices"
	"testing"
	"unsafe"

	"loop.example/g00321/impl"
)

// wordedTrim has every number modulo OrderR, by numbers of any size, up to the last one that is not 0.
func wordedTrim(a []int) []int {
	made, end := []int{}, 0
	for i, n := range a {
		made = append(made, wordedScalarOf(n))
		if made[i] != 0 {
			end = i + 1
		}
	}
	return made[:end]
}

func wordedPolyAdd(a []int, b []int) []int {
	sum := []int{}
	for i := 0; i < len(a) || i < len(b); i++ {
		both := new(big.Int)
		if i < len(a) {
			both.Add(both, big.NewInt(int64(a[i])))
		}
		if i < len(b) {
			both.Add(both, big.NewInt(int64(b[i])))
		}
		sum = append(sum, wordedScalar(both))
	}
	return wordedTrim(sum)
}

// wordedProduct knows no limit: each place of it is the sum of the products that fall there.
func wordedProduct(a []int, b []int) []int {
	product := []int{}
	for place := range len(a) + len(b) {
		sum := new(big.Int)
		for i := range a {
			if j := place - i; j >= 0 && j < len(b) {
				sum.Add(sum, new(big.Int).Mul(big.NewInt(int64(a[i])), big.NewInt(int64(b[j]))))
			}
		}
		product = append(product, wordedScalar(sum))
	}
	return wordedTrim(product)
}

func wordedPolyMul(a []int, b []int) []int {
	if len(a) > 64 || len(b) > 64 {
		return nil
	}
	return wordedProduct(a, b)
}

// wordedPolyAt puts each number times a power of x together.
func wordedPolyAt(a []int, x int) int {
	sum, order := new(big.Int), big.NewInt(1009)
	for i, n := range a {
		power := new(big.Int).Exp(big.NewInt(int64(wordedScalarOf(x))), big.NewInt(int64(i)), order)
		sum.Add(sum, power.Mul(power, big.NewInt(int64(n))))
	}
	return wordedScalar(sum)
}

// wordedThrough solves for the numbers by taking one row of powers from the others.
func wordedThrough(ys []int) []int {
	rows := [][]int{}
	for i, y := range ys {
		row := []int{}
		for power := range ys {
			row = append(row, wordedPolyAt(withNumber(make([]int, power+1), power, 1), i+1))
		}
		rows = append(rows, append(row, wordedScalarOf(y)))
	}
	for at := range rows {
		inverse := new(big.Int).ModInverse(big.NewInt(int64(rows[at][at])), big.NewInt(1009))
		rows[at] = wordedLess(make([]int, len(ys)+1), rows[at], -int(inverse.Int64()))
		for other := range rows {
			if other != at {
				rows[other] = wordedLess(rows[other], rows[at], rows[other][at])
			}
		}
	}
	made := []int{}
	for _, row := range rows {
		made = append(made, row[len(ys)])
	}
	return wordedTrim(made)
}

// wordedLess is a row less another one so often.
func wordedLess(row []int, other []int, often int) []int {
	made := []int{}
	for i := range row {
		made = append(made, wordedScalarOf(row[i]-often*other[i]))
	}
	return made
}

// trimmedList says whether a list is one that PolyTrim would leave as it is.
func trimmedList(a []int) bool {
	return wordedScalars(a, len(a)) && (len(a) == 0 || a[len(a)-1] != 0)
}

func checkTrim(t *testing.T, a []int) {
	t.Helper()
	got := impl.PolyTrim(a)
	if want := wordedTrim(a); !slices.Equal(got, want) {
		t.Errorf("PolyTrim(%v) = %v, want %v", a, got, want)
	}
	if again := impl.PolyTrim(got); !slices.Equal(again, got) {
		t.Errorf("PolyTrim of PolyTrim(%v) = %v, want %v", a, again, got)
	}
}

func checkPolyAdd(t *testing.T, a []int, b []int) {
	t.Helper()
	got := impl.PolyAdd(a, b)
	if want := wordedPolyAdd(a, b); !slices.Equal(got, want) {
		t.Errorf("PolyAdd(%v, %v) = %v, want %v", a, b, got, want)
	}
	if turned := impl.PolyAdd(b, a); !slices.Equal(turned, got) {
		t.Errorf("PolyAdd(%v, %v) = %v, but %v the other way round", a, b, got, turned)
	}
}

func checkPolyMul(t *testing.T, a []int, b []int) {
	t.Helper()
	got := impl.PolyMul(a, b)
	if want := wordedPolyMul(a, b); !slices.Equal(got, want) {
		t.Errorf("PolyMul(%v, %v) = %v, want %v", a, b, got, want)
	}
	if turned := impl.PolyMul(b, a); !slices.Equal(turned, got) {
		t.Errorf("PolyMul(%v, %v) = %v, but %v the other way round", a, b, got, turned)
	}
}

func checkPolyAt(t *testing.T, a []int, x int) {
	t.Helper()
	if got, want := impl.PolyAt(a, x), wordedPolyAt(a, x); got != want {
		t.Errorf("PolyAt of %d numbers %.300v at %d = %d, want %d", len(a), a, x, got, want)
	}
}

func checkThrough(t *testing.T, ys []int) {
	t.Helper()
	got := impl.PolyThrough(ys)
	if len(ys) > 16 {
		if len(got) != 0 {
			t.Errorf("PolyThrough of %d numbers = %v, want nothing", len(ys), got)
		}
		return
	}
	if !trimmedList(got) || len(got) > len(ys) || !slices.Equal(got, wordedThrough(ys)) {
		t.Errorf("PolyThrough(%v) = %v, want %v", ys, got, wordedThrough(ys))
	}
	for i, y := range ys {
		if is := impl.PolyAt(got, i+1); is != wordedScalarOf(y) || is != wordedPolyAt(got, i+1) {
			t.Errorf("PolyThrough(%v) = %v, which at %d is %d, want %d", ys, got, i+1, is, wordedScalarOf(y))
		}
	}
}

// checkDivide asks for what no two other lists have: together they make a again, and what is left is shorter than b.
func checkDivide(t *testing.T, a []int, b []int) {
	t.Helper()
	often, left := impl.PolyDivide(a, b)
	switch divisor := wordedTrim(b); {
	case len(a) > 64 || len(b) > 64:
		if len(often) != 0 || len(left) != 0 {
			t.Errorf("PolyDivide of %d and %d numbers = %v, %v, want nothing of both", len(a), len(b), often, left)
		}
	case len(divisor) == 0:
		if len(often) != 0 || !slices.Equal(left, wordedTrim(a)) {
			t.Errorf("PolyDivide(%v, %v) = %v, %v, want nothing and %v", a, b, often, left, wordedTrim(a))
		}
	default:
		if !trimmedList(often) || !trimmedList(left) || len(left) >= len(divisor) {
			t.Errorf("PolyDivide(%v, %v) = %v, %v", a, b, often, left)
		}
		if whole := wordedPolyAdd(wordedProduct(often, divisor), left); !slices.Equal(whole, wordedTrim(a)) {
			t.Errorf("PolyDivide(%v, %v) = %v, %v, which make %v again", a, b, often, left, whole)
		}
		if whole := impl.PolyAdd(impl.PolyMul(often, impl.PolyTrim(b)), left); !slices.Equal(whole, impl.PolyTrim(a)) {
			t.Errorf("PolyDivide(%v, %v) = %v, %v, which PolyMul and PolyAdd make %v again", a, b, often, left, whole)
		}
	}
}

// checkTwo asks all that is told of two lists.
func checkTwo(t *testing.T, a []int, b []int) {
	t.Helper()
	checkPolyAdd(t, a, b)
	checkPolyMul(t, a, b)
	checkDivide(t, a, b)
	checkDivide(t, b, a)
}

// polyEdges are the numbers that the edges of a list are made of.
func polyEdges() []int {
	return []int{math.MinInt, -1010, -1009, -1008, -1, 0, 1, 1008, 1009, 1010, math.MaxInt}
}

// scalarNoughts are 0 modulo OrderR.
func scalarNoughts() []int {
	last := math.MaxInt - math.MaxInt%1009
	return []int{0, 1009, -1009, 2018, -1009 * 1009, last, -last}
}

// manyPolys are lists with numbers of all kinds, ends of all kinds and several lengths, each no more than 12.
func manyPolys() [][]int {
	list := [][]int{nil, {}}
	for _, n := range polyEdges() {
		list = append(list, []int{n}, []int{3, n}, []int{n, 5}, []int{0, n, 0}, []int{n, n, n})
	}
	for _, n := range scalarNoughts() {
		list = append(list, []int{n}, []int{n, n}, []int{7, n}, []int{7, 0, n}, []int{7, n, 0, n}, []int{n, 7}, []int{n, n, 7, n, n, n})
	}
	for length := 1; length <= 12; length++ {
		list = append(list, lowScalars(uint64(length), length), scatteredScalars(uint64(length)+100, length))
	}
	return list
}

func TestPolyTrimOfManyLists(t *testing.T) {
	for _, a := range manyPolys() {
		checkTrim(t, a)
		for _, n := range scalarNoughts() {
			for _, count := range []int{1, 2, 3, 70} {
				longer := slices.Concat(a, slices.Repeat([]int{n}, count))
				checkTrim(t, longer)
				if got, want := impl.PolyTrim(longer), impl.PolyTrim(a); !slices.Equal(got, want) {
					t.Errorf("PolyTrim of %v with %d times %d behind it = %v, want %v", a, count, n, got, want)
				}
			}
		}
	}
}

// The numbers were written down by hand.
func TestPolyTrimForms(t *testing.T) {
	for _, form := range [][2][]int{
		{nil, {}}, {{}, {}}, {{0}, {}}, {{1009}, {}}, {{-1009}, {}}, {{0, 0, 0}, {}}, {{1009, 0, -1009, 2018}, {}},
		{{1}, {1}}, {{1, 0}, {1}}, {{0, 1}, {0, 1}}, {{0, 1, 0, 0}, {0, 1}}, {{1, 0, 1, 0}, {1, 0, 1}}, {{5, 1009}, {5}}, {{1009, 5}, {0, 5}},
		{{-1, -1008, 1008, 1010}, {1008, 1, 1008, 1}}, {{-1, 0, -1009}, {1008}}, {{math.MinInt, math.MaxInt}, {817, 191}}, {{math.MaxInt, math.MinInt, 0}, {191, 817}},
	} {
		if got := impl.PolyTrim(form[0]); !slices.Equal(got, form[1]) {
			t.Errorf("PolyTrim(%v) = %v, want %v", form[0], got, form[1])
		}
	}
}

// Neither a trim nor a sum has a limit.
func TestLongListsAreTrimmedAndAdded(t *testing.T) {
	for _, length := range []int{63, 64, 65, 66, 127, 128, 1000, 5000} {
		a, b := scatteredScalars(71, length), lowScalars(73, length)
		checkTrim(t, a)
		checkTrim(t, append(make([]int, length), 1))
		checkPolyAdd(t, a, b)
		checkPolyAdd(t, a, b[:length-1])
		checkPolyAdd(t, a, []int{1})
		checkPolyAdd(t, a, nil)
	}
}

func TestPolysTwoByTwo(t *testing.T) {
	list := manyPolys()
	for _, a := range list {
		for _, b := range list {
			checkTwo(t, a, b)
		}
	}
}

// Every edge at every place of both lists, among other numbers.
func TestPolysWithEdgesWithinLists(t *testing.T) {
	for _, edge := range scalarEdges() {
		for place := range 5 {
			a, b := withNumber(scatteredScalars(79, 5), place, edge), scatteredScalars(83, 3)
			checkTrim(t, a)
			checkTwo(t, a, b)
			checkTwo(t, a, withNumber(b, place%3, edge))
			checkThrough(t, a)
			for _, x := range polyEdges() {
				checkPolyAt(t, a, x)
			}
		}
	}
}

// The numbers were worked out apart from the program.
func TestPolyAddForms(t *testing.T) {
	for _, form := range [][3][]int{
		{nil, nil, {}}, {{1}, nil, {1}}, {nil, {1, 2, 0}, {1, 2}}, {{1}, {1008}, {}}, {{1, 2, 3}, {1, 2, 1006}, {2, 4}}, {{5, 504, 1008}, {5, 505, 1}, {10}},
		{{0, 1}, {0, -1}, {}}, {{1, 2}, {3, 4, 5}, {4, 6, 5}}, {{1, 2, 0, 0}, {3}, {4, 2}}, {{3, 0, 7, 9}, {0, 0, -7, -9}, {3}}, {{1008}, {1008}, {1007}},
		{{math.MaxInt, math.MaxInt}, {math.MaxInt, math.MinInt}, {382, 1008}}, {{math.MinInt, 3}, {math.MinInt, -3}, {625}}, {{4, math.MaxInt}, {0, -math.MaxInt}, {4}},
	} {
		if got := impl.PolyAdd(form[0], form[1]); !slices.Equal(got, form[2]) {
			t.Errorf("PolyAdd(%v, %v) = %v, want %v", form[0], form[1], got, form[2])
		}
	}
}

// So many of the last numbers make 0 together: just those before them are left.
func TestSumsThatEndInNought(t *testing.T) {
	for length := 1; length <= 10; length++ {
		a := slices.Repeat([]int{5}, length)
		for left := range length + 1 {
			b := make([]int, length)
			for i := left; i < length; i++ {
				b[i] = []int{1004, -5, -1014, 2013}[i%4]
			}
			if got := impl.PolyAdd(a, b); !slices.Equal(got, a[:left]) {
				t.Errorf("PolyAdd(%v, %v) = %v, want %v", a, b, got, a[:left])
			}
			checkPolyAdd(t, a, b)
		}
	}
}

// The numbers were worked out apart from the program.
func TestPolyMulForms(t *testing.T) {
	for _, form := range [][3][]int{
		{{1, 1}, {1, 1}, {1, 2, 1}}, {{1, 2, 3}, {4, 5}, {4, 13, 22, 15}}, {{-1, -1}, {1, -1}, {1008, 0, 1}}, {{1008, 1008, 1008}, {1008, 1008, 1008}, {1, 2, 3, 2, 1}},
		{{1, 1009}, {1, -1009}, {1}}, {{0, 0, 1}, {0, 1}, {0, 0, 0, 1}}, {{0, 0, 1, 0}, {0, 1, 0, 0}, {0, 0, 0, 1}}, {{2}, {505}, {1}}, {{7, 8}, {1}, {7, 8}},
		{{7, 8}, {0}, {}}, {{7, 8}, {1009, -1009}, {}}, {{0}, {0}, {}}, {nil, {1, 2}, {}}, {{1, 2}, nil, {}}, {nil, nil, {}},
		{{math.MaxInt}, {math.MinInt}, {661}}, {{math.MaxInt, math.MinInt}, {math.MinInt, math.MaxInt}, {661, 697, 661}},
	} {
		if got := impl.PolyMul(form[0], form[1]); !slices.Equal(got, form[2]) {
			t.Errorf("PolyMul(%v, %v) = %v, want %v", form[0], form[1], got, form[2])
		}
	}
}

func TestProductsOfAllLengths(t *testing.T) {
	wide, low := scatteredScalars(89, 70), lowScalars(97, 70)
	for _, first := range []int{0, 1, 2, 3, 16, 17, 31, 32, 33, 62, 63, 64, 65, 66, 70} {
		for _, second := range []int{0, 1, 2, 3, 16, 17, 31, 32, 33, 62, 63, 64, 65, 66, 70} {
			checkPolyMul(t, wide[:first], low[:second])
			checkPolyMul(t, wide[:first], wide[:second])
			checkPolyMul(t, make([]int, first), low[:second])
		}
	}
	greatest := slices.Repeat([]int{1008}, 64)
	if got := impl.PolyMul(greatest, greatest); len(got) != 127 || got[0] != 1 || got[63] != 64 || got[126] != 1 {
		t.Errorf("PolyMul of 64 times 1008 with itself = %v", got)
	}
	checkPolyMul(t, slices.Repeat([]int{math.MaxInt}, 64), slices.Repeat([]int{math.MinInt}, 64))
}

// lengthsAbout64 are lists of 64 numbers and of more, with numbers and with zeros at their ends.
func lengthsAbout64() [][]int {
	return [][]int{
		lowScalars(101, 64), lowScalars(103, 65), append(make([]int, 63), 1), append(make([]int, 64), 1),
		append([]int{3, 1}, make([]int, 62)...), append([]int{3, 1}, make([]int, 63)...), append([]int{3, 1}, slices.Repeat([]int{1009}, 63)...),
		append(lowScalars(107, 64), 0), append(lowScalars(109, 64), 1009), append(lowScalars(113, 64), 0, 0),
		make([]int, 64), make([]int, 65), slices.Repeat([]int{-1009}, 65), make([]int, 500),
	}
}

// A list is counted as it is handed in: zeros at its end count.
func TestMoreThan64Numbers(t *testing.T) {
	for _, a := range lengthsAbout64() {
		for _, b := range append(lengthsAbout64(), manyPolys()...) {
			checkTwo(t, a, b)
			if len(a) > 64 && (len(impl.PolyMul(a, b)) != 0 || len(impl.PolyMul(b, a)) != 0) {
				t.Errorf("PolyMul of %d and %d numbers is not nothing", len(a), len(b))
			}
		}
	}
	if got := impl.PolyMul(append([]int{3, 1}, make([]int, 62)...), []int{2}); !slices.Equal(got, []int{6, 2}) {
		t.Errorf("PolyMul of 64 numbers, 62 of them 0, and 2 = %v, want 6 and 2", got)
	}
}

// A sum and a product are at each place the sum and the product of what both are there.
func TestPolyAtOfSumsAndProducts(t *testing.T) {
	places := append([]int{2, 3, 504, 505}, polyEdges()...)
	list := manyPolys()
	for i, a := range list {
		for j, b := range list {
			sum, product := impl.PolyAdd(a, b), impl.PolyMul(a, b)
			for _, x := range []int{places[(i+j)%len(places)], places[(i+3*j+1)%len(places)], places[(5*i+j+2)%len(places)]} {
				first, second := impl.PolyAt(a, x), impl.PolyAt(b, x)
				if got, want := impl.PolyAt(sum, x), impl.ScAdd(first, second); got != want {
					t.Errorf("PolyAt of the sum of %v and %v at %d = %d, want %d", a, b, x, got, want)
				}
				if got, want := impl.PolyAt(product, x), impl.ScMul(first, second); got != want {
					t.Errorf("PolyAt of the product of %v and %v at %d = %d, want %d", a, b, x, got, want)
				}
			}
		}
	}
}

func TestPolyAtOfEveryPlace(t *testing.T) {
	for _, a := range [][]int{lowScalars(127, 5), scatteredScalars(131, 5), {0, 1}, {0, 0, 1, 0}, {7, 0, 0}} {
		for x := range 1009 {
			checkPolyAt(t, a, x)
			for _, other := range []int{x - 1009, x + 1009, x - 9000000000000000*1009, x + 9000000000000000*1009} {
				if got, want := impl.PolyAt(a, other), impl.PolyAt(a, x); got != want {
					t.Errorf("PolyAt(%v, %d) = %d, but at %d it is %d", a, other, got, x, want)
				}
			}
		}
	}
	for _, a := range manyPolys() {
		for _, x := range scalarEdges() {
			checkPolyAt(t, a, x)
		}
		if got, want := impl.PolyAt(a, 4), impl.PolyAt(impl.PolyTrim(a), 4); got != want {
			t.Errorf("PolyAt(%v, 4) = %d, but trimmed it is %d", a, got, want)
		}
	}
}

// The numbers were worked out apart from the program.
func TestPolyAtForms(t *testing.T) {
	ones := slices.Repeat([]int{1}, 1009)
	for _, form := range []struct {
		a       []int
		x, want int
	}{
		{nil, 5, 0}, {[]int{}, math.MinInt, 0}, {[]int{0}, 3, 0}, {[]int{1009}, 3, 0}, {[]int{7}, 0, 7}, {[]int{7}, math.MinInt, 7}, {[]int{-1}, 9, 1008},
		{[]int{1, 2, 3}, 0, 1}, {[]int{1, 2, 3}, 2, 17}, {[]int{1, 2, 3}, -1, 2}, {[]int{5, 0, 0}, 7, 5}, {[]int{3, 4}, 1009, 3}, {[]int{1, 1, 1, 1}, 1008, 0},
		{[]int{0, 1}, math.MaxInt, 191}, {[]int{0, 1}, math.MinInt, 817}, {[]int{0, 0, 1}, math.MaxInt, 157}, {[]int{math.MaxInt, math.MinInt, math.MaxInt}, math.MinInt, 953},
		{ones, 1, 0}, {ones, 2, 1}, {ones, 0, 1},
	} {
		if got := impl.PolyAt(form.a, form.x); got != form.want {
			t.Errorf("PolyAt(%v, %d) = %d, want %d", form.a, form.x, got, form.want)
		}
	}
}

// PolyAt has no limit.
func TestPolyAtOfLongLists(t *testing.T) {
	for _, length := range []int{64, 65, 66, 127, 1008, 1009, 1010, 5000} {
		for _, x := range []int{0, 1, 2, 1008, 1009, -1, math.MinInt, math.MaxInt} {
			checkPolyAt(t, scatteredScalars(137, length), x)
			checkPolyAt(t, slices.Repeat([]int{math.MaxInt}, length), x)
			checkPolyAt(t, slices.Repeat([]int{math.MinInt}, length), x)
		}
	}
}

func TestPolyThroughLists(t *testing.T) {
	for length := range 21 {
		for start := range uint64(8) {
			checkThrough(t, lowScalars(start*31+139, length))
			checkThrough(t, scatteredScalars(start*37+149, length))
		}
		for _, n := range polyEdges() {
			same := slices.Repeat([]int{n}, length)
			checkThrough(t, same)
			for place := range length {
				checkThrough(t, withNumber(make([]int, length), place, n))
				checkThrough(t, withNumber(lowScalars(151, length), place, n))
			}
			if length > 0 && length <= 16 && !slices.Equal(impl.PolyThrough(same), impl.PolyTrim([]int{n})) {
				t.Errorf("PolyThrough of %d times %d = %v", length, n, impl.PolyThrough(same))
			}
		}
	}
}

// The numbers were worked out apart from the program.
func TestPolyThroughForms(t *testing.T) {
	for _, form := range [][2][]int{
		{nil, {}}, {{7}, {7}}, {{0}, {}}, {{1009}, {}}, {{5, 5}, {5}}, {{0, 0, 0}, {}}, {{1, 4, 9}, {0, 0, 1}}, {{1, 4, 9, 16, 25}, {0, 0, 1}}, {{2, 3, 5, 7, 11}, {6, 580, 132, 419, 883}},
		{{1, 0, 0}, {3, 502, 505}}, {{0, 0, 1}, {1, 503, 505}}, {{1008, -1, 1009}, {0, 503, 505}}, {{math.MaxInt, math.MinInt}, {574, 626}}, {{math.MinInt, math.MaxInt, math.MinInt, math.MaxInt}, {154, 641, 103, 928}},
		{{0, 1, 2, 3, 4, 5, 6, 7, 8, 9, 10, 11, 12, 13, 14, 15}, {1008, 1}},
		{{1, 0, 0, 0, 0, 0, 0, 0, 0, 0, 0, 0, 0, 0, 0, 0}, {16, 307, 862, 162, 2, 108, 550, 213, 376, 210, 40, 608, 197, 724, 548, 123}},
		{{0, 0, 0, 0, 0, 0, 0, 0, 0, 0, 0, 0, 0, 0, 0, 1}, {1008, 234, 43, 614, 679, 225, 554, 371, 13, 831, 504, 1005, 593, 887, 634, 886}},
		{{1, 480, 927, 348, 804, 1000, 741, 555, 670, 482, 182, 725, 204, 512, 666, 24}, {0, 0, 0, 0, 0, 0, 0, 0, 0, 0, 0, 0, 0, 0, 0, 1}},
	} {
		if got := impl.PolyThrough(form[0]); !slices.Equal(got, form[1]) {
			t.Errorf("PolyThrough(%v) = %v, want %v", form[0], got, form[1])
		}
	}
}

// What a polynomial of no more numbers is at 1, 2 and so on leads back to it.
func TestPolyThroughWhatAPolynomialIs(t *testing.T) {
	for length := 1; length <= 16; length++ {
		for size := range length + 1 {
			a := lowScalars(uint64(length*20+size), size)
			ys := []int{}
			for x := 1; x <= length; x++ {
				ys = append(ys, wordedPolyAt(a, x))
			}
			if got := impl.PolyThrough(ys); !slices.Equal(got, wordedTrim(a)) {
				t.Errorf("PolyThrough(%v) = %v, want %v", ys, got, wordedTrim(a))
			}
		}
	}
}

func TestPolyThroughMoreThanMaxRows(t *testing.T) {
	for _, length := range []int{17, 18, 64, 65, 2000} {
		for _, ys := range [][]int{make([]int, length), lowScalars(157, length), scatteredScalars(163, length), slices.Repeat([]int{1}, length), append(lowScalars(167, 16), make([]int, length-16)...)} {
			checkThrough(t, ys)
		}
	}
}

func TestPolyZeroIsNoughtAtItsPlacesAlone(t *testing.T) {
	for n := range impl.MaxRows + 1 {
		zero := impl.PolyZero(n)
		if len(zero) != n+1 || !trimmedList(zero) || zero[n] != 1 {
			t.Errorf("PolyZero(%d) = %v, want %d numbers, 1 the last of them", n, zero, n+1)
		}
		for x := range impl.OrderR {
			is := impl.PolyAt(zero, x)
			if none := x >= 1 && x <= n; (is == 0) != none || is != wordedPolyAt(zero, x) {
				t.Errorf("PolyZero(%d) at %d is %d", n, x, is)
			}
		}
		for fewer := range n {
			often, left := impl.PolyDivide(zero, impl.PolyZero(fewer))
			if len(left) != 0 || len(often) != len(zero)-fewer {
				t.Errorf("PolyZero(%d) is not in PolyZero(%d): %v, %v", fewer, n, often, left)
			}
		}
	}
}

// The numbers were worked out apart from the program.
func TestPolyZeroForms(t *testing.T) {
	for n, want := range map[int][]int{
		0: {1}, 1: {1008, 1}, 2: {2, 1006, 1}, 3: {1003, 11, 1003, 1}, 4: {24, 959, 35, 999, 1}, 5: {889, 274, 784, 85, 994, 1}, 8: {969, 397, 71, 319, 251, 509, 546, 973, 1},
		16: {328, 416, 783, 785, 756, 155, 989, 659, 819, 633, 551, 545, 151, 209, 428, 873, 1},
	} {
		if got := impl.PolyZero(n); !slices.Equal(got, want) {
			t.Errorf("PolyZero(%d) = %v, want %v", n, got, want)
		}
	}
}

func TestPolyZeroOutside(t *testing.T) {
	for _, n := range []int{-1, -2, -16, 17, 18, 64, 65, 1008, 1009, 1010, 1 << 32, 1<<32 + 3, -1 << 32, math.MinInt, math.MinInt + 1, math.MaxInt - 1, math.MaxInt} {
		if got := impl.PolyZero(n); len(got) != 0 {
			t.Errorf("PolyZero(%d) = %v, want nothing", n, got)
		}
	}
}

// The numbers were worked out apart from the program.
func TestPolyDivideForms(t *testing.T) {
	for _, form := range [][4][]int{
		{{1008, 0, 1}, {1008, 1}, {1, 1}, {}}, {{5, 3, 2}, {1, 2}, {1, 1}, {4}}, {{1, 2, 3, 4, 5, 6}, {7, 8, 9}, {441, 901, 710, 337}, {950, 257}}, {{1, 0, 0, 0, 0, 1}, {1, 1}, {1, 1008, 1, 1008, 1}, {}},
		{{10, 20}, {5}, {2, 4}, {}}, {{10, 20, 0}, {5, 0, 1009}, {2, 4}, {}}, {{0, 0, 0, 1}, {0, 1, 0}, {0, 0, 1}, {}}, {{3, 1009}, {0, 2}, {}, {3}}, {{1, 1, -1009}, {1010, 1010}, {1}, {}},
		{{1, 1, 1, 1, 1, 1, 1, 1, 1, 1}, {1, 1, 1}, {0, 1, 0, 0, 1, 0, 0, 1}, {1}}, {{math.MaxInt, math.MinInt}, {math.MinInt}, {246, 1}, {}}, {{math.MaxInt, math.MinInt, math.MaxInt}, {math.MinInt, math.MaxInt}, {0, 1}, {191}},
		{{1, 2, 3}, {}, {}, {1, 2, 3}}, {{1, 2, 3, 0}, {0}, {}, {1, 2, 3}}, {{-1, 1010, 1009}, {1009, 0, -1009}, {}, {1008, 1}}, {nil, nil, {}, {}}, {nil, {1}, {}, {}}, {{0, 0}, {1}, {}, {}}, {{0, 0}, {0, 3}, {}, {}},
		{{1, 2}, {1, 2, 3}, {}, {1, 2}}, {{1, 2, 0}, {1, 2, 3}, {}, {1, 2}}, {{1, 2, 3}, {1, 2, 0}, {757, 506}, {253}},
	} {
		if often, left := impl.PolyDivide(form[0], form[1]); !slices.Equal(often, form[2]) || !slices.Equal(left, form[3]) {
			t.Errorf("PolyDivide(%v, %v) = %v, %v, want %v, %v", form[0], form[1], often, left, form[2], form[3])
		}
	}
}

func TestPolyDivideOfAllLengths(t *testing.T) {
	sizes := []int{0, 1, 2, 3, 5, 16, 17, 31, 32, 33, 62, 63, 64, 65, 66, 70}
	for _, first := range sizes {
		for _, second := range sizes {
			wide, low := scatteredScalars(uint64(first)+173, first), lowScalars(uint64(second)+179, second)
			checkDivide(t, wide, low)
			checkDivide(t, make([]int, first), low)
			checkDivide(t, wide, make([]int, second))
			checkDivide(t, slices.Repeat([]int{math.MinInt}, first), slices.Repeat([]int{math.MaxInt}, second))
		}
	}
}

// Products, and products with something put to them, come apart again.
func TestPolyDivideOfProducts(t *testing.T) {
	for first := 1; first <= 32; first++ {
		for second := 1; second <= 32; second += 3 {
			a, b := lowScalars(uint64(first)+181, first), lowScalars(uint64(second)+191, second)
			a[first-1], b[second-1] = 1+a[first-1]%1008, 1+b[second-1]%1008
			product := wordedProduct(a, b)
			if often, left := impl.PolyDivide(product, b); !slices.Equal(often, a) || len(left) != 0 {
				t.Errorf("PolyDivide(%v, %v) = %v, %v, want %v and nothing", product, b, often, left, a)
			}
			for size := range second {
				more := lowScalars(uint64(size)+193, size)
				if often, left := impl.PolyDivide(wordedPolyAdd(product, more), b); !slices.Equal(often, a) || !slices.Equal(left, wordedTrim(more)) {
					t.Errorf("PolyDivide(%v and %v, %v) = %v, %v, want %v and %v", product, more, b, often, left, a, wordedTrim(more))
				}
			}
		}
	}
}

func TestPolyDivideByNothing(t *testing.T) {
	nothings := [][]int{nil, {}, {0}, {1009}, {-1009, 0}, {0, 0, 0}, make([]int, 64), slices.Repeat([]int{2018}, 64)}
	for _, a := range append(manyPolys(), lowScalars(197, 64), make([]int, 64)) {
		for _, none := range nothings {
			if often, left := impl.PolyDivide(a, none); len(often) != 0 || !slices.Equal(left, wordedTrim(a)) {
				t.Errorf("PolyDivide(%v, %v) = %v, %v, want nothing and %v", a, none, often, left, wordedTrim(a))
			}
			if often, left := impl.PolyDivide(none, a); len(often) != 0 || len(left) != 0 {
				t.Errorf("PolyDivide(%v, %v) = %v, %v, want nothing of both", none, a, often, left)
			}
		}
	}
}

func TestPolyDivideByOneNumber(t *testing.T) {
	a := lowScalars(199, 9)
	for n := 1; n < 1009; n++ {
		for _, divisor := range [][]int{{n}, {n - 1009}, {n + 1009, 0, 1009}} {
			often, left := impl.PolyDivide(a, divisor)
			if len(left) != 0 || len(often) != 9 || !slices.Equal(wordedProduct(often, []int{n}), wordedTrim(a)) {
				t.Errorf("PolyDivide(%v, %v) = %v, %v", a, divisor, often, left)
			}
		}
	}
	for _, n := range polyEdges() {
		for _, list := range manyPolys() {
			checkDivide(t, list, []int{n})
			checkDivide(t, list, []int{n, 0})
		}
	}
}

func TestPolyDivideByItselfAndByMore(t *testing.T) {
	for _, a := range append(manyPolys(), lowScalars(211, 63), lowScalars(223, 64)) {
		trimmed := wordedTrim(a)
		if len(trimmed) == 0 {
			continue
		}
		for _, b := range [][]int{a, trimmed} {
			if often, left := impl.PolyDivide(a, b); !slices.Equal(often, []int{1}) || len(left) != 0 {
				t.Errorf("PolyDivide(%v, %v) = %v, %v, want 1 and nothing", a, b, often, left)
			}
		}
		if len(trimmed) < 64 {
			more := append(slices.Clone(trimmed), 1)
			if often, left := impl.PolyDivide(a, more); len(often) != 0 || !slices.Equal(left, trimmed) {
				t.Errorf("PolyDivide(%v, %v) = %v, %v, want nothing and %v", a, more, often, left, trimmed)
			}
		}
	}
}

// What is divided by x less a number leaves what it is there.
func TestPolyDivideLeavesWhatItIsThere(t *testing.T) {
	for _, a := range [][]int{lowScalars(227, 6), scatteredScalars(229, 13), {0, 0, 1}, {5}, lowScalars(233, 64)} {
		for x := range 1009 {
			_, left := impl.PolyDivide(a, []int{-x, 1})
			if want := wordedTrim([]int{wordedPolyAt(a, x)}); !slices.Equal(left, want) {
				t.Errorf("PolyDivide of %v by x less %d leaves %v, want %v", a, x, left, want)
			}
		}
	}
}

// listsShare says whether two lists, with the room behind them, have memory in common.
func listsShare[E any](a []E, b []E) bool {
	if cap(a) == 0 || cap(b) == 0 {
		return false
	}
	size := unsafe.Sizeof(a[:1][0])
	from, other := uintptr(unsafe.Pointer(unsafe.SliceData(a))), uintptr(unsafe.Pointer(unsafe.SliceData(b)))
	return from < other+uintptr(cap(b))*size && other < from+uintptr(cap(a))*size
}

// polyAnswers are all lists that the functions of polynomials answer of two lists.
func polyAnswers(a []int, b []int) [][]int {
	often, left := impl.PolyDivide(a, b)
	return [][]int{impl.PolyTrim(a), impl.PolyAdd(a, b), impl.PolyMul(a, b), impl.PolyThrough(a), often, left, impl.PolyZero(len(a)), impl.PolyZero(0)}
}

// keptPolys are lists of all kinds that are handed in twice.
func keptPolys() [][]int {
	return append(manyPolys(), lowScalars(239, 16), lowScalars(241, 17), lowScalars(251, 64), append(lowScalars(257, 64), 0), make([]int, 64), make([]int, 65), scatteredScalars(263, 65))
}

func TestPolyArgumentsStayAsTheyWere(t *testing.T) {
	for _, first := range keptPolys() {
		for _, second := range keptPolys() {
			a, b := roomyNumbers(first), roomyNumbers(second)
			answers := polyAnswers(a, b)
			impl.PolyAt(a, -3)
			for i, list := range [][]int{a, b} {
				if want := slices.Concat([][]int{first, second}[i], []int{-7, -9}); !slices.Equal(list[:len(list)+2], want) {
					t.Errorf("of %v and %v one is %v", first, second, list[:len(list)+2])
				}
			}
			for i, plain := range polyAnswers(slices.Clone(first), slices.Clone(second)) {
				if !slices.Equal(answers[i], plain) {
					t.Errorf("of %v and %v answer %d is %v, but with room behind them %v", first, second, i, plain, answers[i])
				}
			}
		}
	}
}

func TestPolyAnswersAreNewMemory(t *testing.T) {
	for _, first := range keptPolys() {
		for _, second := range keptPolys() {
			a, b := roomyNumbers(first), roomyNumbers(second)
			answers := polyAnswers(a, b)
			for i, answer := range answers {
				if listsShare(answer, a) || listsShare(answer, b) {
					t.Errorf("of %v and %v answer %d shares memory with what was handed in", first, second, i)
				}
				for j := range i {
					if listsShare(answer, answers[j]) {
						t.Errorf("of %v and %v answers %d and %d share memory", first, second, j, i)
					}
				}
			}
		}
	}
}

// A list may be handed in twice, and one may be a piece of the other.
func TestPolysOfOneList(t *testing.T) {
	for _, list := range keptPolys() {
		was := slices.Clone(list)
		for from := range min(len(list), 5) {
			checkTwo(t, list, list[from:])
			checkTwo(t, list[:from], list)
		}
		checkTwo(t, list, list)
		if !slices.Equal(list, was) {
			t.Errorf("the list is %v, was %v", list, was)
		}
	}
}

// What is done to an answer is not in the next one.
func TestPolyAnswersComeAgain(t *testing.T) {
	for _, first := range keptPolys() {
		for _, second := range [][]int{{1, 2}, {0}, nil, lowScalars(269, 16), make([]int, 65)} {
			once := polyAnswers(first, second)
			kept := [][]int{}
			for _, answer := range once {
				kept = append(kept, slices.Clone(answer))
			}
			for i, answer := range once {
				spoil(answer)
				if again := polyAnswers(first, second)[i]; !slices.Equal(again, kept[i]) {
					t.Errorf("of %v and %v answer %d is %v, then %v", first, second, i, kept[i], again)
				}
			}
		}
	}
}
