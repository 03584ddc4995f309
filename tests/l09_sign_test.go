package tests

import (
	"math"
	"slices"
	"strconv"
	"strings"
	"testing"

	"loop.example/g00321/impl"
)

// groupLogs tells of each point of the group how often it is Base.
var groupLogs = logsOfGroup()

func logsOfGroup() map[impl.Point]int {
	logs := map[impl.Point]int{}
	for k, p := range groupOfPoints() {
		logs[p] = k
	}
	return logs
}

// wordedHash is the document's point of a text; how many tries did not serve; and how many of those had a point that Cofactor times makes Zero.
func wordedHash(text string) (impl.Point, int, int) {
	low := 0
	for n := range 64 {
		digest := impl.Digest(string(rune(n)) + text)
		x := (int(digest[0])<<24 | int(digest[1])<<16 | int(digest[2])<<8 | int(digest[3])) % 12107
		points := pointsAt(x)
		if len(points) == 0 {
			continue
		}
		if p := wordedTimes(12, points[0]); !p.Zero {
			return p, n, low
		}
		low++
	}
	return at(8445, 859), 64, low
}

// wordedSigOk asks no pair: in the group it counts how often each point is Base.
func wordedSigOk(key impl.Point, text string, sig impl.Point) bool {
	k, keyOk := groupLogs[key]
	s, sigOk := groupLogs[sig]
	hash, _, _ := wordedHash(text)
	return keyOk && sigOk && k > 0 && s > 0 && s == k*groupLogs[hash]%1009
}

func wordedAllSigOk(keys []impl.Point, text string, sig impl.Point) bool {
	sum := zeroPoint()
	for _, key := range keys {
		sum = wordedPointSum(sum, key)
	}
	return len(keys) > 0 && wordedSigOk(sum, text, sig)
}

func checkSigOk(t *testing.T, key impl.Point, text string, sig impl.Point) {
	t.Helper()
	if got, want := impl.SigOk(key, text, sig), wordedSigOk(key, text, sig); got != want {
		t.Errorf("SigOk(%v, %.20q, %v) = %v, want %v", key, text, sig, got, want)
	}
}

func noSig(t *testing.T, key impl.Point, text string, sig impl.Point) {
	t.Helper()
	if impl.SigOk(key, text, sig) {
		t.Errorf("SigOk(%v, %.20q, %v) = true", key, text, sig)
	}
}

func checkAllSigOk(t *testing.T, keys []impl.Point, text string, sig impl.Point) {
	t.Helper()
	got, want := impl.AllSigOk(keys, text, sig), wordedAllSigOk(keys, text, sig)
	if got != want {
		t.Errorf("AllSigOk(%v, %.20q, %v) = %v, want %v", keys, text, sig, got, want)
	}
	if sum := len(keys) > 0 && impl.SigOk(impl.SumPoints(keys), text, sig); got != sum {
		t.Errorf("AllSigOk(%v, %.20q, %v) = %v, SigOk of SumPoints %v", keys, text, sig, got, sum)
	}
}

func noAllSig(t *testing.T, keys []impl.Point, text string, sig impl.Point) {
	t.Helper()
	if impl.AllSigOk(keys, text, sig) {
		t.Errorf("AllSigOk(%v, %.20q, %v) = true", keys, text, sig)
	}
}

// signTexts are empty, short and long, of any bytes, and such as begin with a byte that is tried ahead of a text.
func signTexts() []string {
	list := []string{"said", "x", "38", "\x00", "\x00\x00", "\x00said", "\x01said", "?said", "\xff", "\x80\xc3(", "ä", allBytes(), "472", "5247435", strings.Repeat("a", 20000), patterned(20001), patterned(300000)}
	for _, size := range edgeSizes() {
		list = append(list, patterned(size))
	}
	return list
}

// signSecrets are above and below 0 and of every size; ScOf makes none of them 0.
func signSecrets() []int {
	var list []int
	for _, secret := range append(manyScalars(), 7, 640, -640, 12108, 12109, -12107) {
		if wordedScalarOf(secret) != 0 {
			list = append(list, secret)
		}
	}
	return list
}

// noSecrets are those that ScOf makes 0.
func noSecrets() []int {
	return []int{0, 1009, -1009, 2018, -2018, 12108, -12108, 1009 * 1009, -1009 * 1009, 1009 << 32, -1009 << 32, math.MaxInt / 1009 * 1009, math.MinInt / 1009 * 1009}
}

// lowPoints are those that Cofactor times makes Zero, without Zero itself.
func lowPoints() []impl.Point {
	var list []impl.Point
	for _, x := range []int{0, 1885, 6532, 10146, 11965, 12106} {
		list = append(list, pointsAt(x)...)
	}
	return list
}

func keysOf(secrets ...int) []impl.Point {
	list := make([]impl.Point, len(secrets))
	for i, secret := range secrets {
		list[i] = impl.KeyOf(secret)
	}
	return list
}

// signedBy is what each of them signed, together.
func signedBy(text string, secrets ...int) impl.Point {
	list := make([]impl.Point, len(secrets))
	for i, secret := range secrets {
		list[i] = impl.SignWith(secret, text)
	}
	return impl.SumPoints(list)
}

// The numbers were worked out apart from the program: tries is how many bytes ahead of the text do not serve.
var hashForms = []struct {
	text  string
	tries int
	want  impl.Point
}{
	{"", 2, at(6760, 1617)}, {"said", 2, at(7802, 9258)}, {"x", 0, at(11522, 8886)}, {"abc", 0, at(11450, 8501)},
	{"\x00", 1, at(8899, 1917)}, {"\xff", 0, at(11450, 3606)}, {"\x80\xc3(", 0, at(5661, 5410)}, {allBytes(), 0, at(8216, 5672)},
	{strings.Repeat("a", 134), 0, at(6867, 7074)}, {strings.Repeat("a", 135), 0, at(4746, 2835)}, {strings.Repeat("a", 136), 1, at(11267, 4163)}, {strings.Repeat("a", 137), 1, at(6424, 682)},
	{strings.Repeat("a", 20000), 0, at(4556, 11125)}, {strings.Repeat("a", 20001), 2, at(8444, 714)},
	// No root at the first tries.
	{"5", 1, at(460, 10000)}, {"6", 3, at(5647, 4259)}, {"48", 4, at(878, 5265)}, {"51", 9, at(2436, 11055)}, {"1498", 16, at(1094, 5323)},
	{"51622", 23, at(2620, 5577)}, {"5247435", 27, at(7888, 4891)}, {"129849257", 29, at(8105, 8279)},
	// A root at a try, but Cofactor times that point is Zero: X 10146, 6532, 12106, 11965, 0, 1885; then some at the very first try.
	{"472", 13, at(4593, 7340)}, {"2000", 3, at(3850, 6000)}, {"4503", 2, at(3677, 2356)}, {"3923", 2, at(6354, 1762)}, {"10918", 4, at(4046, 208)}, {"9468", 2, at(5292, 9166)},
	{"6503", 1, at(5455, 2629)}, {"7157", 1, at(2974, 8356)}, {"10403", 6, at(7921, 9519)},
}

func TestHashPointForms(t *testing.T) {
	for _, form := range hashForms {
		if got := impl.HashPoint(form.text); got != form.want {
			t.Errorf("HashPoint(%.20q) = %v, want %v", form.text, got, form.want)
		}
		if got, tries, _ := wordedHash(form.text); got != form.want || tries != form.tries {
			t.Errorf("the words make %v of %.20q after %d tries, want %v after %d", got, form.text, tries, form.want, form.tries)
		}
	}
}

func TestHashPointByTheWords(t *testing.T) {
	var byTries [65]int
	withLow := 0
	check := func(text string) {
		want, tries, low := wordedHash(text)
		byTries[tries]++
		withLow += min(low, 1)
		if got := impl.HashPoint(text); got != want {
			t.Errorf("HashPoint(%.20q) = %v, want %v", text, got, want)
		}
	}
	for _, text := range signTexts() {
		check(text)
	}
	for n := range 5000 {
		check("text " + strconv.Itoa(n))
	}
	for size := range 420 {
		check(patterned(size))
		check(allBytes()[:min(size, 256)])
	}
	for tries := range 9 {
		if byTries[tries] == 0 {
			t.Errorf("no text took %d tries", tries)
		}
	}
	if withLow == 0 {
		t.Error("no text had a point that Cofactor times makes Zero")
	}
}

func TestHashPointIsOfTheGroup(t *testing.T) {
	texts := signTexts()
	for n := range 300 {
		texts = append(texts, strconv.Itoa(n*n))
	}
	for _, form := range hashForms {
		texts = append(texts, form.text)
	}
	for _, text := range texts {
		got := impl.HashPoint(text)
		if !impl.InGroup(got) || got.Zero || groupLogs[got] == 0 {
			t.Errorf("HashPoint(%.20q) = %v: not of the group, or Zero", text, got)
		}
		if again := impl.HashPoint(strings.Clone(text)); again != got {
			t.Errorf("HashPoint(%.20q) = %v, and then %v", text, got, again)
		}
	}
}

// Each byte of a text counts, wherever it stands.
func TestHashPointOfATurnedByte(t *testing.T) {
	text := patterned(150)
	other := 0
	for place := range len(text) {
		turned := []byte(text)
		turned[place] ^= 1 << (place % 8)
		want, _, _ := wordedHash(string(turned))
		got := impl.HashPoint(string(turned))
		if got != want {
			t.Errorf("HashPoint with byte %d turned = %v, want %v", place, got, want)
		}
		if got != impl.HashPoint(text) {
			other++
		}
	}
	if other < len(text)-5 {
		t.Errorf("of %d turned bytes only %d make another point", len(text), other)
	}
}

// The numbers were worked out apart from the program.
func TestKeyOfAndSignWithForms(t *testing.T) {
	for _, form := range []struct {
		secret int
		key    impl.Point
		sig    impl.Point
	}{
		{0, zeroPoint(), zeroPoint()}, {1, at(8445, 859), at(7802, 9258)}, {2, at(8558, 1817), at(10542, 853)}, {5, at(11077, 2618), at(3834, 8210)}, {6, at(3997, 5536), at(591, 2337)},
		{1008, at(8445, 11248), at(7802, 2849)}, {-1, at(8445, 11248), at(7802, 2849)}, {1009, zeroPoint(), zeroPoint()}, {1010, at(8445, 859), at(7802, 9258)}, {-1003, at(3997, 5536), at(591, 2337)},
	} {
		if got := impl.KeyOf(form.secret); got != form.key {
			t.Errorf("KeyOf(%d) = %v, want %v", form.secret, got, form.key)
		}
		if got := impl.SignWith(form.secret, "said"); got != form.sig {
			t.Errorf("SignWith(%d, said) = %v, want %v", form.secret, got, form.sig)
		}
	}
}

func TestKeyOf(t *testing.T) {
	points := groupOfPoints()
	secrets := append(signSecrets(), noSecrets()...)
	for n := -1100; n < 2200; n++ {
		secrets = append(secrets, n)
	}
	for _, secret := range secrets {
		want := points[wordedScalarOf(secret)]
		if got := impl.KeyOf(secret); got != want || got != impl.PointTimes(impl.ScOf(secret), impl.Base()) {
			t.Errorf("KeyOf(%d) = %v, want %v", secret, got, want)
		}
	}
}

func TestSignWith(t *testing.T) {
	points := groupOfPoints()
	for _, text := range []string{"", "said", "472", "\x00\xff", patterned(137)} {
		hash, _, _ := wordedHash(text)
		for _, secret := range append(signSecrets(), noSecrets()...) {
			want := points[wordedScalarOf(secret)*groupLogs[hash]%1009]
			if got := impl.SignWith(secret, text); got != want || got != impl.PointTimes(impl.ScOf(secret), impl.HashPoint(text)) {
				t.Errorf("SignWith(%d, %.20q) = %v, want %v", secret, text, got, want)
			}
		}
	}
}

// The promise: what is signed is right.
func TestSigOkOfWhatIsSigned(t *testing.T) {
	for _, text := range []string{"", "said", "10918"} {
		for _, secret := range signSecrets() {
			if !impl.SigOk(impl.KeyOf(secret), text, impl.SignWith(secret, text)) {
				t.Errorf("what %d signed of %.20q is not right", secret, text)
			}
		}
	}
	for _, text := range signTexts() {
		for _, secret := range []int{1, -1, 5, 1008, 1010, 123456789, math.MaxInt, math.MinInt} {
			if !impl.SigOk(impl.KeyOf(secret), text, impl.SignWith(secret, text)) {
				t.Errorf("what %d signed of %.20q, %d bytes, is not right", secret, text, len(text))
			}
		}
	}
}

// Of all points of the group just one is the signature of a key, and just one the key of a signature.
func TestSigOkOfTheWholeGroup(t *testing.T) {
	points := groupOfPoints()
	for _, text := range []string{"", "said", "2000"} {
		for _, secret := range []int{1, 2, 505, 1008} {
			key, sig := impl.KeyOf(secret), impl.SignWith(secret, text)
			for k, p := range points {
				if got := impl.SigOk(key, text, p); got != (p == sig) {
					t.Errorf("SigOk of the key of %d and %d times Base for %q is %v", secret, k, text, got)
				}
				if got := impl.SigOk(p, text, sig); got != (p == key) {
					t.Errorf("SigOk of %d times Base for key and what %d signed of %q is %v", k, secret, text, got)
				}
			}
		}
	}
}

func TestSigOkOfOtherKeysAndSignatures(t *testing.T) {
	secrets := []int{0, 1, 2, 3, 504, 505, 1007, 1008, 1009, 1010, -2, -1008, -1010, math.MaxInt, math.MinInt}
	for _, one := range secrets {
		for _, other := range secrets {
			checkSigOk(t, impl.KeyOf(one), "said", impl.SignWith(other, "said"))
			checkSigOk(t, impl.SignWith(other, "said"), "said", impl.KeyOf(one))
			want := wordedScalarOf(one) == wordedScalarOf(other) && wordedScalarOf(one) != 0
			if got := impl.SigOk(impl.KeyOf(one), "said", impl.SignWith(other, "said")); got != want {
				t.Errorf("SigOk of the key of %d and what %d signed is %v", one, other, got)
			}
		}
	}
}

func TestSigOkOfAnotherText(t *testing.T) {
	texts := append(signTexts(), "said ", " said", "sai", "saie", "Said", "40", "53")
	for _, secret := range []int{1, 77, -4} {
		key := impl.KeyOf(secret)
		for _, signed := range []string{"", "said", "\x00said", patterned(136)} {
			sig := impl.SignWith(secret, signed)
			first, _, _ := wordedHash(signed)
			for _, told := range texts {
				// Of points as few as these some texts have the same one.
				second, _, _ := wordedHash(told)
				if got := impl.SigOk(key, told, sig); got != (first == second) {
					t.Errorf("SigOk of %.20q with a signature of %.20q is %v", told, signed, got)
				}
			}
		}
	}
	key, sig := impl.KeyOf(9), impl.SignWith(9, "said")
	if !impl.SigOk(key, "38", sig) || !impl.SigOk(key, "40", sig) {
		t.Error("a signature is not right for another text that has the same point")
	}
	for _, told := range []string{"", "sai", "saie", "Said", "said ", "\x00said", "said\x00"} {
		noSig(t, key, told, sig)
	}
}

func TestSigOkOfNoSecret(t *testing.T) {
	for _, secret := range noSecrets() {
		for _, text := range []string{"", "said", patterned(137)} {
			key, sig := impl.KeyOf(secret), impl.SignWith(secret, text)
			if key != zeroPoint() || sig != zeroPoint() {
				t.Errorf("of the secret %d the key is %v, and the signature %v", secret, key, sig)
			}
			noSig(t, key, text, sig)
			noSig(t, key, text, impl.HashPoint(text))
			noSig(t, impl.Base(), text, sig)
		}
	}
}

func TestSigOkWithZero(t *testing.T) {
	list := append(groupOfPoints(), append(pointEdges(), wrongPoints()...)...)
	for _, p := range append(list, impl.Point{}) {
		noSig(t, zeroPoint(), "said", p)
		noSig(t, p, "said", zeroPoint())
	}
}

// Pairing makes 1 of wrong points, so two of them together would seem the same.
func TestSigOkOfWrongPoints(t *testing.T) {
	text := "said"
	key, sig := impl.KeyOf(5), impl.SignWith(5, text)
	bad := append(wrongPoints(), strangePoints()...)
	bad = append(bad, lowPoints()...)
	bad = append(bad, impl.Point{})
	for _, p := range bad {
		for _, q := range append(bad, key, sig, zeroPoint(), impl.Base(), impl.HashPoint(text)) {
			noSig(t, p, text, q)
			noSig(t, q, text, p)
		}
	}
}

// What is right is wrong when it is told otherwise: brought out of the field, off the curve, or with a flag.
func TestSigOkOfRightPointsToldOtherwise(t *testing.T) {
	for _, secret := range []int{1, 5, 640} {
		key, sig := impl.KeyOf(secret), impl.SignWith(secret, "said")
		for _, off := range []int{1, -1, 12107, -12107, 24214, 12107 << 32, -12107 << 32} {
			for _, move := range []impl.Point{at(off, 0), at(0, off), at(off, off)} {
				noSig(t, at(key.X+move.X, key.Y+move.Y), "said", sig)
				noSig(t, key, "said", at(sig.X+move.X, sig.Y+move.Y))
			}
		}
		noSig(t, impl.Point{X: key.X, Y: key.Y, Zero: true}, "said", sig)
		noSig(t, key, "said", impl.Point{X: sig.X, Y: sig.Y, Zero: true})
		noSig(t, impl.PointNeg(key), "said", sig)
		noSig(t, key, "said", impl.PointNeg(sig))
		if !impl.SigOk(impl.PointNeg(key), "said", impl.PointNeg(sig)) {
			t.Errorf("the opposites of what %d signed are not right together", secret)
		}
	}
}

// Points that leave the group by one that Cofactor times makes Zero.
func TestSigOkBesideTheGroup(t *testing.T) {
	for _, text := range []string{"", "said"} {
		for _, secret := range []int{1, 5, 1008} {
			key, sig := impl.KeyOf(secret), impl.SignWith(secret, text)
			for _, low := range lowPoints() {
				noSig(t, impl.PointAdd(key, low), text, sig)
				noSig(t, key, text, impl.PointAdd(sig, low))
				noSig(t, impl.PointAdd(key, low), text, impl.PointAdd(sig, low))
			}
		}
	}
}

// The promise: what many signed is right for all together.
func TestAllSigOkOfSeveral(t *testing.T) {
	for size := 1; size < 14; size++ {
		for _, text := range []string{"", "said", "2000", patterned(200)} {
			secrets := scatteredScalars(uint64(size)*91+3, size)
			keys, sig := keysOf(secrets...), signedBy(text, secrets...)
			checkAllSigOk(t, keys, text, sig)
			if !impl.AllSigOk(keys, text, sig) {
				t.Errorf("what %v signed of %.20q is not right", secrets, text)
			}
			slices.Reverse(keys)
			if !impl.AllSigOk(keys, text, sig) {
				t.Errorf("what %v signed of %.20q is not right the other way round", secrets, text)
			}
			noAllSig(t, keys, text+"!", sig)
			noAllSig(t, keys, text, impl.PointNeg(sig))
			noAllSig(t, keys, text, impl.PointAdd(sig, impl.Base()))
		}
	}
	secrets := scatteredScalars(8, 400)
	if !impl.AllSigOk(keysOf(secrets...), "said", signedBy("said", secrets...)) {
		t.Error("what 400 signed is not right")
	}
}

func TestAllSigOkWithOneLeftOut(t *testing.T) {
	for _, text := range []string{"", "said"} {
		secrets := []int{5, 6, -7, 1020, 300, math.MaxInt, 31, 8}
		keys, sig := keysOf(secrets...), signedBy(text, secrets...)
		if !impl.AllSigOk(keys, text, sig) {
			t.Fatalf("what %v signed of %q is not right", secrets, text)
		}
		for place := range secrets {
			fewer := slices.Delete(slices.Clone(secrets), place, place+1)
			noAllSig(t, keysOf(fewer...), text, sig)
			noAllSig(t, keys, text, signedBy(text, fewer...))
			noAllSig(t, append(slices.Clone(keys), keys[place]), text, sig)
			if !impl.AllSigOk(keysOf(fewer...), text, signedBy(text, fewer...)) {
				t.Errorf("what %v signed of %q is not right", fewer, text)
			}
		}
	}
}

func TestAllSigOkOfNone(t *testing.T) {
	list := append(groupOfPoints(), append(pointEdges(), wrongPoints()...)...)
	list = append(list, impl.Point{}, impl.HashPoint("said"), impl.HashPoint(""))
	for _, none := range [][]impl.Point{nil, {}, keysOf(5, 6)[:0]} {
		for _, sig := range list {
			noAllSig(t, none, "said", sig)
			noAllSig(t, none, "", sig)
		}
	}
}

func TestAllSigOkOfOne(t *testing.T) {
	points := append(pointEdges(), wrongPoints()...)
	points = append(points, impl.Point{}, impl.KeyOf(5), impl.SignWith(5, "said"), impl.HashPoint("said"))
	for _, key := range points {
		for _, sig := range points {
			if got, want := impl.AllSigOk([]impl.Point{key}, "said", sig), impl.SigOk(key, "said", sig); got != want {
				t.Errorf("AllSigOk of %v alone and %v is %v, SigOk %v", key, sig, got, want)
			}
		}
	}
	for _, secret := range signSecrets() {
		key, sig := impl.KeyOf(secret), impl.SignWith(secret, "x")
		if !impl.AllSigOk([]impl.Point{key}, "x", sig) {
			t.Errorf("what %d alone signed is not right", secret)
		}
		noAllSig(t, []impl.Point{key}, "x", impl.PointNeg(sig))
	}
}

// Keys that are Zero together are right with no signature, not even with the one that all of them made.
func TestAllSigOkOfKeysThatAreZeroTogether(t *testing.T) {
	sigs := append(groupOfPoints(), append(pointEdges(), wrongPoints()...)...)
	sigs = append(sigs, impl.Point{})
	for _, secrets := range [][]int{{5, -5}, {1, 1008}, {-640, 640}, {1, 2, -3}, {2, 2, 1005}, {3, -3, 9, -9}, {0}, {1009, 0, -1009}} {
		keys := keysOf(secrets...)
		if sum := impl.SumPoints(keys); sum != zeroPoint() {
			t.Fatalf("the keys of %v are %v together", secrets, sum)
		}
		noAllSig(t, keys, "said", signedBy("said", secrets...))
		for _, sig := range sigs {
			noAllSig(t, keys, "said", sig)
		}
	}
	for _, p := range pointEdges() {
		noAllSig(t, []impl.Point{p, impl.PointNeg(p)}, "said", zeroPoint())
		noAllSig(t, []impl.Point{p, impl.PointNeg(p)}, "said", impl.HashPoint("said"))
	}
}

func TestAllSigOkOfOneKeySoOften(t *testing.T) {
	for _, secret := range []int{1, 5, -9, 1008} {
		key, sig := impl.KeyOf(secret), impl.SignWith(secret, "said")
		for _, often := range []int{1, 2, 3, 12, 1008, 1009, 1010} {
			keys := slices.Repeat([]impl.Point{key}, often)
			want := often != 1009
			if got := impl.AllSigOk(keys, "said", impl.PointTimes(often, sig)); got != want {
				t.Errorf("AllSigOk of the key of %d, %d times, is %v", secret, often, got)
			}
			if got := impl.AllSigOk(keys, "said", sig); got != (often%1009 == 1) {
				t.Errorf("AllSigOk of the key of %d, %d times, with its signature once is %v", secret, often, got)
			}
		}
	}
}

func TestAllSigOkWithZeroAmongTheKeys(t *testing.T) {
	keys, sig := keysOf(5, 6, 7), signedBy("said", 5, 6, 7)
	for place := range len(keys) + 1 {
		list := slices.Insert(slices.Clone(keys), place, zeroPoint())
		checkAllSigOk(t, list, "said", sig)
		if !impl.AllSigOk(list, "said", sig) {
			t.Errorf("AllSigOk with Zero at place %d is false", place)
		}
	}
	noAllSig(t, []impl.Point{zeroPoint()}, "said", zeroPoint())
	noAllSig(t, []impl.Point{zeroPoint(), zeroPoint()}, "said", sig)
}

// What is put together with a wrong point is Zero, so the keys behind it are those that count.
func TestAllSigOkWithAWrongKey(t *testing.T) {
	secrets := []int{5, 6, -7, 300}
	keys, sig := keysOf(secrets...), signedBy("said", secrets...)
	for _, wrong := range wrongPoints() {
		for place := range len(keys) + 1 {
			list := slices.Insert(slices.Clone(keys), place, wrong)
			behind := signedBy("said", secrets[place:]...)
			checkAllSigOk(t, list, "said", behind)
			checkAllSigOk(t, list, "said", sig)
			checkAllSigOk(t, list, "said", signedBy("said", secrets[:place]...))
			if got := impl.AllSigOk(list, "said", behind); got != (place < len(keys)) {
				t.Errorf("AllSigOk with %v at place %d and what those behind it signed is %v", wrong, place, got)
			}
		}
	}
}

func TestAllSigOkWithAKeyOutsideTheGroup(t *testing.T) {
	secrets := []int{5, 6, -7, 300}
	keys, sig := keysOf(secrets...), signedBy("said", secrets...)
	for _, strange := range append(strangePoints(), append(lowPoints(), impl.Point{})...) {
		for place := range len(keys) + 1 {
			list := slices.Insert(slices.Clone(keys), place, strange)
			checkAllSigOk(t, list, "said", sig)
			noAllSig(t, list, "said", sig)
			noAllSig(t, list, "said", impl.PointAdd(sig, strange))
			// Two of them may make a point of the group again: it is their sum that is asked.
			both := append(list, impl.PointNeg(strange))
			checkAllSigOk(t, both, "said", sig)
			if !impl.AllSigOk(both, "said", sig) {
				t.Errorf("AllSigOk with %v at place %d and its PointNeg behind all is false", strange, place)
			}
		}
	}
}

func TestAllSigOkOfAWrongSignature(t *testing.T) {
	keys, sig := keysOf(5, 6, 7), signedBy("said", 5, 6, 7)
	bad := append(wrongPoints(), strangePoints()...)
	bad = append(bad, lowPoints()...)
	bad = append(bad, impl.Point{}, zeroPoint(), at(sig.X+12107, sig.Y), at(sig.X, sig.Y-12107), impl.Point{X: sig.X, Y: sig.Y, Zero: true})
	for _, p := range bad {
		noAllSig(t, keys, "said", p)
		noAllSig(t, []impl.Point{p}, "said", p)
		noAllSig(t, []impl.Point{p, p}, "said", p)
	}
	for _, low := range lowPoints() {
		noAllSig(t, keys, "said", impl.PointAdd(sig, low))
	}
}

func TestAllSigOkLeavesItsKeysAsTheyWere(t *testing.T) {
	secrets := []int{5, 6, -7, 300}
	for _, keys := range [][]impl.Point{nil, keysOf(secrets...), keysOf(5, -5), wrongPoints(), strangePoints(), append(keysOf(1, 2), wrongPoints()[0], at(0, 0), zeroPoint())} {
		for _, sig := range []impl.Point{signedBy("said", secrets...), zeroPoint(), {}, at(1, 1)} {
			list := roomyPoints(keys)
			first := impl.AllSigOk(list, "said", sig)
			if second := impl.AllSigOk(list, "said", sig); second != first {
				t.Errorf("AllSigOk(%v, said, %v) = %v, and then %v", keys, sig, first, second)
			}
			if !slices.Equal(list, keys) || !slices.Equal(list[len(list):len(list)+2], []impl.Point{at(-7, -8), at(-9, -10)}) {
				t.Errorf("AllSigOk left %v of %v", list[:len(list)+2], keys)
			}
		}
	}
}
