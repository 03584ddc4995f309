package tests

import (
	"math"
	"math/big"
	"reflect"
	"runtime"
	"slices"
	"strconv"
	"strings"
	"sync"
	"testing"
	"time"

	"loop.example/g00321/impl"
)

// wordedSecrets is the document's sum, by numbers of any size.
func wordedSecrets(seed int) []int {
	rest := new(big.Int).Mod(big.NewInt(int64(seed)), big.NewInt(1000))
	var list []int
	for i := range 8 {
		sum := new(big.Int).Mul(rest, big.NewInt(31))
		sum.Add(sum, big.NewInt(int64(i*57+7)))
		sum.Mod(sum, big.NewInt(1007))
		list = append(list, 1+int(sum.Int64()))
	}
	return list
}

// groupPoints has at each place Base so often.
var groupPoints = groupOfPoints()

// committeeBy has Keys that are Base so often, by the round of the group.
func committeeBy(often ...int) impl.Committee {
	c := impl.Committee{}
	for _, k := range often {
		c.Keys = append(c.Keys, groupPoints[k])
	}
	return c
}

func wordedPointText(p impl.Point) string {
	if p.Zero {
		return "\x00\x00\x00"
	}
	return string([]byte{byte((p.X + 1) / 256), byte((p.X + 1) % 256), byte(p.Y % 2)})
}

func wordedKeyTexts(c impl.Committee) []string {
	var texts []string
	for _, key := range c.Keys {
		texts = append(texts, wordedPointText(key))
	}
	return texts
}

func wordedSumOf(points []impl.Point) impl.Point {
	sum := zeroPoint()
	for _, p := range points {
		sum = wordedPointAdd(sum, p)
	}
	return sum
}

func wordedCommitteeText(c impl.Committee) string {
	return strings.Join(wordedKeyTexts(c), "") + wordedPointText(wordedSumOf(c.Keys))
}

// wordedJoined goes by the figures of bits, the last of which is of the first Key.
func wordedJoined[T any](list []T, bits int) []T {
	figures := strconv.FormatInt(int64(bits), 2)
	var joined []T
	for i := range len(figures) {
		if figures[len(figures)-1-i] == '1' {
			joined = append(joined, list[i])
		}
	}
	return joined
}

// keysByText has each point that may be a Key at its text.
func keysByText() map[string]impl.Point {
	keys := map[string]impl.Point{}
	for _, p := range groupPoints[1:] {
		keys[wordedPointText(p)] = p
	}
	return keys
}

func wordedReadCommittee(keys map[string]impl.Point, text string) (impl.Committee, bool) {
	c := impl.Committee{}
	if len(text) != 27 {
		return c, false
	}
	for place := range 8 {
		key, ok := keys[text[3*place:3*place+3]]
		if !ok {
			return impl.Committee{}, false
		}
		c.Keys = append(c.Keys, key)
	}
	if wordedPointText(wordedSumOf(c.Keys)) != text[24:] {
		return impl.Committee{}, false
	}
	return c, true
}

func checkReadCommittee(t *testing.T, keys map[string]impl.Point, text string) bool {
	t.Helper()
	want, right := wordedReadCommittee(keys, text)
	got, ok := impl.ReadCommittee(text)
	if !slices.Equal(got.Keys, want.Keys) || ok != right {
		t.Errorf("ReadCommittee(%x) = %v, %v, want %v, %v", text, got, ok, want, right)
	}
	if ok {
		if back, ok := impl.CommitteeText(got); back != text || !ok {
			t.Errorf("ReadCommittee took %x, whose committee has the text %x, %v", text, back, ok)
		}
	}
	return ok
}

func noReadCommittee(t *testing.T, text string) {
	t.Helper()
	if c, ok := impl.ReadCommittee(text); ok || len(c.Keys) != 0 {
		t.Errorf("ReadCommittee(%.100x) = %v, %v, want the zero Committee, false", text, c, ok)
	}
}

// noCommittee asks each function for its answer to a committee that is not right.
func noCommittee(t *testing.T, c impl.Committee) {
	t.Helper()
	if impl.CommitteeOk(c) {
		t.Errorf("CommitteeOk(%v) is true", c)
	}
	if text, ok := impl.CommitteeText(c); text != "" || ok {
		t.Errorf("CommitteeText(%v) = %x, %v, want nothing, false", c, text, ok)
	}
	if root := impl.CommitteeRoot(c); root != "" {
		t.Errorf("CommitteeRoot(%v) = %x, want nothing", c, root)
	}
	for _, bits := range []int{0, 1, 127, 128, 255, -1, 256} {
		if keys := impl.Joined(c, bits); len(keys) != 0 {
			t.Errorf("Joined(%v, %d) = %v, want nothing", c, bits, keys)
		}
	}
}

// withKey is the committee with another Key at the place.
func withKey(c impl.Committee, place int, key impl.Point) impl.Committee {
	keys := slices.Clone(c.Keys)
	keys[place] = key
	return impl.Committee{Keys: keys}
}

// manySeeds are above and below 0 and of every size, with each one beside which a committee changes or comes again.
func manySeeds() []int {
	list := []int{0, 1, 2, 3, 31, 32, 33, 172, 499, 500, 997, 998, 999, 1000, 1001, 1006, 1007, 1008, 1009, 1172, 1999, 2000, -1, -2, -828, -998, -999, -1000, -1001, -1007, -2000, 1000000000, -1000000000}
	list = append(list, math.MinInt, math.MinInt+1, math.MinInt+192, math.MaxInt, math.MaxInt-1, math.MaxInt-807, math.MaxInt/31, math.MaxInt/31+1, math.MinInt/31, math.MinInt/31-1)
	return append(list, scatteredScalars(12, 60)...)
}

// wrongBits tell nobody; some of them would tell members, if they were cut to fewer bits.
func wrongBits() []int {
	list := []int{-1, -2, -127, -128, -129, -254, -255, -256, -257, 256, 257, 263, 510, 511, 512, 1000, 65535, 65536, math.MinInt, math.MinInt + 1, math.MinInt + 255, math.MaxInt, math.MaxInt - 1, math.MaxInt - 255}
	for _, bit := range []int{8, 9, 15, 16, 31, 32, 62} {
		list = append(list, 7+1<<bit, 255+1<<bit, 7-1<<bit, 1<<bit)
	}
	return list
}

// otherCommittees are right ones that no seed makes: of Keys that are alike, that are each other's opposites, or that are Zero together, and of any Keys.
func otherCommittees() []impl.Committee {
	list := []impl.Committee{
		committeeBy(1, 1, 1, 1, 1, 1, 1, 1), committeeBy(1008, 1008, 1008, 1008, 1008, 1008, 1008, 1008), committeeBy(640, 640, 640, 640, 640, 640, 640, 640),
		committeeBy(1, 2, 3, 4, 5, 6, 7, 8), committeeBy(8, 7, 6, 5, 4, 3, 2, 1), committeeBy(1008, 1007, 1006, 1005, 1, 2, 3, 4),
		committeeBy(1, 1008, 1, 1008, 1, 1008, 1, 1008), committeeBy(5, 5, 5, 5, 9, 9, 9, 9), committeeBy(1, 1, 1, 1, 1, 1, 1, 1002),
		committeeBy(500, 509, 500, 509, 7, 7, 7, 988), committeeBy(2, 1, 1, 1, 1, 1, 1, 1), committeeBy(1, 1, 1, 1, 1, 1, 1, 2),
	}
	for start := range uint64(40) {
		var often []int
		for _, n := range scatteredScalars(start*17+5, 8) {
			often = append(often, 1+int(uint64(n)>>8%1008))
		}
		list = append(list, committeeBy(often...))
	}
	return list
}

func manyCommittees() []impl.Committee {
	list := otherCommittees()
	for _, seed := range manySeeds() {
		list = append(list, committeeBy(wordedSecrets(seed)...))
	}
	return list
}

// notKeys are no Keys: Zero, points outside the group, and such as are not on the curve.
func notKeys() []impl.Point {
	list := append(wrongPoints(), strangePoints()...)
	list = append(list, lowPoints()...)
	for _, low := range lowPoints() {
		list = append(list, wordedPointAdd(impl.Base(), low))
	}
	base := impl.Base()
	return append(list, zeroPoint(), impl.Point{}, impl.Point{X: base.X, Y: base.Y, Zero: true}, at(base.X, -base.Y), at(base.X, base.Y+12107))
}

func TestTheTypeOfACommittee(t *testing.T) {
	if impl.Members != 8 || impl.Quorum != 6 {
		t.Errorf("Members = %d and Quorum = %d, want 8 and 6", impl.Members, impl.Quorum)
	}
	committee := reflect.TypeFor[impl.Committee]()
	if committee.NumField() != 1 {
		t.Fatalf("a Committee has %d fields, want 1", committee.NumField())
	}
	if got := committee.Field(0); got.Name != "Keys" || got.Type != reflect.TypeFor[[]impl.Point]() || got.Anonymous {
		t.Errorf("the field of a Committee is %v %v, want Keys, a list of points", got.Name, got.Type)
	}
}

// The figures were worked out apart from the program. The Keys of seed 172 are Zero together.
func TestCommitteeForms(t *testing.T) {
	for _, form := range []struct {
		seed    int
		secrets []int
		text    string
		root    string
	}{
		{0, []int{8, 65, 122, 179, 236, 293, 350, 407}, "11c400126b012db20124a6002589001029000b21012606002bb200", "a9a34e48953ae66afcff9d536406faae8ed8d486e4a48a89f1d04880f92a8f17"},
		{1, []int{39, 96, 153, 210, 267, 324, 381, 438}, "2caf010e23012237011aff012e41012961010f0b01165901288f01", "df6b302afc4c6f7005a314122339e244925ed6693ed358bc1afb009d8cd5f68d"},
		{3, []int{101, 158, 215, 272, 329, 386, 443, 500}, "0fcf011d750010a601047d0017ea012e3f0002690001b2012e3f00", "a3c8d43d875e57b499750021810168adb366f4c0c13cafadcf07485764a36a8d"},
		{32, []int{1000, 50, 107, 164, 221, 278, 335, 392}, "081c001194000c420021650029760012d90113a101006700296901", "aab0547418c320dc8c5ab1cb829b1d9cc2de9bd46f86748c5c1b266a2c11a4e3"},
		{172, []int{305, 362, 419, 476, 533, 590, 647, 704}, "2c4e0116e30011d30122210122210011d30016e3012c4e00000000", "71e0a99b55044220db53e4b223a1da3b48b6056f563751e51d3db54e85390ec1"},
		{500, []int{403, 460, 517, 574, 631, 688, 745, 802}, "11080125840003620003ed000a590009ae00231a0128350123e501", "724fffc597adbf41bc494c4865fd9149d7c95930d9ea98ec7eb0cb71fa64fd98"},
		{998, []int{736, 793, 850, 907, 964, 14, 71, 128}, "00f401261f011618001872002be0000e9f010eaa00000d0028a500", "b2cf9eb33efb45dc586a848541ced5affdaa9f2027076dc457e1b525ea38aa60"},
		{999, []int{767, 824, 881, 938, 995, 45, 102, 159}, "058700190c00000d010eaa010e9f002be001187201161801287d01", "f0f090b78b0485d08522e0d0549720470243163a7ddb759c9eff35cc5e8a6b4e"},
		{-1, []int{767, 824, 881, 938, 995, 45, 102, 159}, "058700190c00000d010eaa010e9f002be001187201161801287d01", "f0f090b78b0485d08522e0d0549720470243163a7ddb759c9eff35cc5e8a6b4e"},
		{1000, []int{8, 65, 122, 179, 236, 293, 350, 407}, "11c400126b012db20124a6002589001029000b21012606002bb200", "a9a34e48953ae66afcff9d536406faae8ed8d486e4a48a89f1d04880f92a8f17"},
		{-1000, []int{8, 65, 122, 179, 236, 293, 350, 407}, "11c400126b012db20124a6002589001029000b21012606002bb200", "a9a34e48953ae66afcff9d536406faae8ed8d486e4a48a89f1d04880f92a8f17"},
		{math.MinInt, []int{925, 982, 32, 89, 146, 203, 260, 317}, "26d20122010027b90000d7012375010a1301103501009901239200", "751f6bd1c2b5fbc768aa54aadbf04572b59a6666450bf6223a66d65aefa8aa41"},
		{math.MaxInt, []int{857, 914, 971, 21, 78, 135, 192, 249}, "2be500264f0116f4002abf0000f70012ea011a88011610012cf101", "20c424a90a5ea62feb44e8c0f194b9e94b6721838a5cfdc185e3d4d316aa7edd"},
	} {
		text, root := fromFigures(t, form.text), fromFigures(t, form.root)
		if got := impl.SecretsOf(form.seed); !slices.Equal(got, form.secrets) || !slices.Equal(wordedSecrets(form.seed), form.secrets) {
			t.Errorf("SecretsOf(%d) = %v, by the words %v, want %v", form.seed, got, wordedSecrets(form.seed), form.secrets)
		}
		c := impl.CommitteeOf(form.seed)
		if !impl.CommitteeOk(c) {
			t.Errorf("CommitteeOf(%d) = %v, which is not right", form.seed, c)
		}
		if got, ok := impl.CommitteeText(c); got != text || !ok {
			t.Errorf("CommitteeText of seed %d = %x, %v, want %x, true", form.seed, got, ok, text)
		}
		if got, ok := impl.ReadCommittee(text); !slices.Equal(got.Keys, c.Keys) || !ok {
			t.Errorf("ReadCommittee(%x) = %v, %v, want %v, true", text, got, ok, c)
		}
		if got := impl.CommitteeRoot(c); got != root {
			t.Errorf("CommitteeRoot of seed %d = %x, want %x", form.seed, got, root)
		}
		if worded := committeeBy(form.secrets...); wordedCommitteeText(worded) != text || nodeOver(wordedKeyTexts(worded)) != root {
			t.Errorf("the words make %x and %x of seed %d, want %x and %x", wordedCommitteeText(worded), nodeOver(wordedKeyTexts(worded)), form.seed, text, root)
		}
	}
}

// The figures were worked out apart from the program.
func TestSignBitsForms(t *testing.T) {
	for _, form := range []struct {
		seed int
		bits int
		text string
		sig  impl.Point
	}{
		{3, 7, "said", at(8716, 6906)}, {3, 255, "said", at(537, 9129)}, {3, 1, "said", at(10114, 1708)}, {3, 128, "said", at(5598, 7273)},
		{3, 0, "said", zeroPoint()}, {172, 255, "said", zeroPoint()}, {0, 110, "said", zeroPoint()}, {21, 59, "", zeroPoint()},
		{0, 255, "", at(3233, 3965)}, {999, 63, "x", at(4148, 10919)}, {-1, 63, "x", at(4148, 10919)}, {500, 170, "said", at(2477, 7623)}, {500, 85, "said", at(11438, 1220)},
		{math.MinInt, 254, "said", at(9104, 7386)}, {math.MaxInt, 127, "", at(2750, 3169)},
	} {
		if got := impl.SignBits(form.seed, form.bits, form.text); got != form.sig {
			t.Errorf("SignBits(%d, %d, %q) = %v, want %v", form.seed, form.bits, form.text, got, form.sig)
		}
	}
}

func TestSecretsOfEverySeed(t *testing.T) {
	for seed := -3003; seed < 3003; seed++ {
		want := wordedSecrets(seed)
		if got := impl.SecretsOf(seed); !slices.Equal(got, want) {
			t.Fatalf("SecretsOf(%d) = %v, want %v", seed, got, want)
		}
		for i, secret := range want {
			if secret < 1 || secret > 1007 || slices.Contains(want[:i], secret) {
				t.Fatalf("the secrets of %d are %v", seed, want)
			}
		}
	}
	for _, seed := range manySeeds() {
		if got, want := impl.SecretsOf(seed), wordedSecrets(seed); !slices.Equal(got, want) {
			t.Errorf("SecretsOf(%d) = %v, want %v", seed, got, want)
		}
	}
}

func TestSeedsThatAreTheSame(t *testing.T) {
	for _, same := range [][]int{
		{0, 1000, -1000, 2000, -2000, 1000000000, -1000000000}, {999, -1, 1999, -1001}, {1, -999, 1001},
		{192, math.MinInt, 1192, -808}, {807, math.MaxInt, -193}, {193, math.MinInt + 1}, {806, math.MaxInt - 1},
	} {
		for _, seed := range same[1:] {
			if !slices.Equal(impl.SecretsOf(seed), impl.SecretsOf(same[0])) {
				t.Errorf("SecretsOf(%d) = %v, SecretsOf(%d) = %v", seed, impl.SecretsOf(seed), same[0], impl.SecretsOf(same[0]))
			}
			if !slices.Equal(impl.CommitteeOf(seed).Keys, impl.CommitteeOf(same[0]).Keys) {
				t.Errorf("CommitteeOf(%d) and CommitteeOf(%d) are unlike", seed, same[0])
			}
			if impl.SignBits(seed, 219, "said") != impl.SignBits(same[0], 219, "said") {
				t.Errorf("SignBits of %d and of %d are unlike", seed, same[0])
			}
		}
	}
	roots := map[string]int{}
	for seed := range 1000 {
		root := impl.CommitteeRoot(impl.CommitteeOf(seed))
		if other, taken := roots[root]; taken {
			t.Errorf("seeds %d and %d have one root", other, seed)
		}
		roots[root] = seed
	}
}

func TestCommitteeOfIsOfItsSecrets(t *testing.T) {
	for _, seed := range manySeeds() {
		c := impl.CommitteeOf(seed)
		if want := committeeBy(wordedSecrets(seed)...); !slices.Equal(c.Keys, want.Keys) {
			t.Errorf("CommitteeOf(%d) = %v, want %v", seed, c, want)
		}
		if want := keysOf(impl.SecretsOf(seed)...); !slices.Equal(c.Keys, want) {
			t.Errorf("CommitteeOf(%d) = %v, want %v", seed, c, want)
		}
		if !impl.CommitteeOk(c) {
			t.Errorf("CommitteeOf(%d) is not right", seed)
		}
	}
}

// The promise: committees come back from their texts.
func TestCommitteesComeBack(t *testing.T) {
	list := manyCommittees()
	for seed := range 1000 {
		list = append(list, impl.CommitteeOf(seed))
	}
	for _, c := range list {
		text, ok := impl.CommitteeText(c)
		if text != wordedCommitteeText(c) || len(text) != 27 || !ok || !impl.CommitteeOk(c) {
			t.Fatalf("CommitteeText(%v) = %x, %v, CommitteeOk %v, want %x, true, true", c, text, ok, impl.CommitteeOk(c), wordedCommitteeText(c))
		}
		back, ok := impl.ReadCommittee(text)
		if !slices.Equal(back.Keys, c.Keys) || !ok {
			t.Fatalf("ReadCommittee(%x) = %v, %v, want %v, true", text, back, ok, c)
		}
	}
}

// Each point of the group but Zero may be a Key, at each place.
func TestCommitteesOfEveryKey(t *testing.T) {
	c := impl.CommitteeOf(3)
	for k, key := range groupPoints[1:] {
		other := withKey(c, k%8, key)
		text, ok := impl.CommitteeText(other)
		if text != wordedCommitteeText(other) || !ok {
			t.Errorf("CommitteeText(%v) = %x, %v, want %x, true", other, text, ok, wordedCommitteeText(other))
		}
		if back, ok := impl.ReadCommittee(text); !slices.Equal(back.Keys, other.Keys) || !ok {
			t.Errorf("ReadCommittee(%x) = %v, %v, want %v, true", text, back, ok, other)
		}
	}
}

func TestCommitteeTextIsOfTheKeysAndTheirSum(t *testing.T) {
	for _, c := range manyCommittees() {
		want := ""
		for _, key := range c.Keys {
			want += impl.PointText(key)
		}
		want += impl.PointText(impl.SumPoints(c.Keys))
		if got, ok := impl.CommitteeText(c); got != want || !ok {
			t.Errorf("CommitteeText(%v) = %x, %v, want %x, true", c, got, ok, want)
		}
	}
}

func TestCommitteesThatAreZeroTogether(t *testing.T) {
	zero := 0
	for _, c := range manyCommittees() {
		if !wordedSumOf(c.Keys).Zero {
			continue
		}
		zero++
		text, ok := impl.CommitteeText(c)
		if !ok || text[24:] != "\x00\x00\x00" || !impl.CommitteeOk(c) || len(impl.CommitteeRoot(c)) != 32 {
			t.Errorf("CommitteeText(%v) = %x, %v, CommitteeOk %v", c, text, ok, impl.CommitteeOk(c))
		}
		if back, ok := impl.ReadCommittee(text); !slices.Equal(back.Keys, c.Keys) || !ok {
			t.Errorf("ReadCommittee(%x) = %v, %v, want %v, true", text, back, ok, c)
		}
	}
	if zero < 6 {
		t.Errorf("%d of the committees are Zero together, want more", zero)
	}
}

func TestCommitteeRootIsOfTheKeys(t *testing.T) {
	for _, c := range manyCommittees() {
		texts := make([]string, 8)
		for i, key := range c.Keys {
			texts[i] = impl.PointText(key)
		}
		root := impl.CommitteeRoot(c)
		if root != impl.RootOf(texts) || root != nodeOver(wordedKeyTexts(c)) || len(root) != 32 {
			t.Errorf("CommitteeRoot(%v) = %x, want %x", c, root, impl.RootOf(texts))
		}
		for i, text := range texts {
			if impl.FoldBranch(text, i, impl.BranchOf(texts, i)) != root {
				t.Errorf("Key %d of %v does not make its root", i, c)
			}
		}
	}
}

func TestCommitteesOfOtherKeys(t *testing.T) {
	for _, seed := range []int{0, 3, 172, 999} {
		c := impl.CommitteeOf(seed)
		text, _ := impl.CommitteeText(c)
		var others []impl.Committee
		for place, key := range c.Keys {
			others = append(others, withKey(c, place, impl.PointNeg(key)), withKey(c, place, impl.PointAdd(key, key)))
			for beside := range place {
				others = append(others, withKey(withKey(c, place, c.Keys[beside]), beside, key), withKey(c, place, c.Keys[beside]))
			}
		}
		for _, other := range others {
			otherText, ok := impl.CommitteeText(other)
			if !ok || otherText == text || impl.CommitteeRoot(other) == impl.CommitteeRoot(c) {
				t.Errorf("%v and %v have the texts %x and %x, %v, and the roots %x and %x", c, other, text, otherText, ok, impl.CommitteeRoot(c), impl.CommitteeRoot(other))
			}
		}
	}
}

func TestCountBitsOfEveryNumber(t *testing.T) {
	for bits := range 256 {
		if got, want := impl.CountBits(bits), strings.Count(strconv.FormatInt(int64(bits), 2), "1"); got != want {
			t.Errorf("CountBits(%d) = %d, want %d", bits, got, want)
		}
	}
	for place := range 8 {
		if impl.CountBits(1<<place) != 1 || impl.CountBits(255-1<<place) != 7 {
			t.Errorf("CountBits of bit %d alone is %d, of the others %d", place, impl.CountBits(1<<place), impl.CountBits(255-1<<place))
		}
	}
	if impl.CountBits(0) != 0 || impl.CountBits(255) != 8 {
		t.Errorf("CountBits(0) = %d and CountBits(255) = %d", impl.CountBits(0), impl.CountBits(255))
	}
	for _, bits := range wrongBits() {
		if got := impl.CountBits(bits); got != 0 {
			t.Errorf("CountBits(%d) = %d, want 0", bits, got)
		}
	}
}

func TestJoinedByEveryNumber(t *testing.T) {
	for _, c := range append(otherCommittees()[:14], impl.CommitteeOf(3), impl.CommitteeOf(172), impl.CommitteeOf(-1)) {
		for bits := range 256 {
			got, want := impl.Joined(c, bits), wordedJoined(c.Keys, bits)
			if !slices.Equal(got, want) || len(got) != impl.CountBits(bits) {
				t.Errorf("Joined(%v, %d) = %v, want %v", c, bits, got, want)
			}
		}
		for place, key := range c.Keys {
			if got := impl.Joined(c, 1<<place); len(got) != 1 || got[0] != key {
				t.Errorf("Joined(%v, %d) = %v, want %v alone", c, 1<<place, got, key)
			}
		}
		if got := impl.Joined(c, 255); !slices.Equal(got, c.Keys) {
			t.Errorf("Joined(%v, 255) = %v, want all", c, got)
		}
		for _, bits := range append(wrongBits(), 0) {
			if got := impl.Joined(c, bits); len(got) != 0 {
				t.Errorf("Joined(%v, %d) = %v, want nothing", c, bits, got)
			}
		}
	}
}

func TestSignBitsByTheWords(t *testing.T) {
	for _, text := range []string{"", "said", "\x00", patterned(300)} {
		hash, _, _ := wordedHash(text)
		for _, seed := range []int{0, 3, 172, -1, math.MinInt, math.MaxInt} {
			secrets := wordedSecrets(seed)
			for bits := range 256 {
				joined := wordedJoined(secrets, bits)
				often := 0
				for _, secret := range joined {
					often += secret
				}
				got := impl.SignBits(seed, bits, text)
				if want := groupPoints[often*groupLogs[hash]%1009]; got != want {
					t.Errorf("SignBits(%d, %d, %.20q) = %v, want %v", seed, bits, text, got, want)
				}
				if bits%5 == 0 && got != signedBy(text, joined...) {
					t.Errorf("SignBits(%d, %d, %.20q) = %v, want %v", seed, bits, text, got, signedBy(text, joined...))
				}
			}
		}
	}
}

// The promise: who is told by bits signs together, when the keys of these together are not Zero.
func TestWhoIsToldSignsTogether(t *testing.T) {
	for _, seed := range []int{0, 3, 21, 172, 500, 999, -1, math.MinInt, math.MaxInt} {
		c := impl.CommitteeOf(seed)
		for bits := range 256 {
			keys, sig := impl.Joined(c, bits), impl.SignBits(seed, bits, "said")
			want := !wordedSumOf(wordedJoined(c.Keys, bits)).Zero
			if got := impl.AllSigOk(keys, "said", sig); got != want {
				t.Errorf("AllSigOk of seed %d and bits %d is %v, want %v", seed, bits, got, want)
			}
			if sig.Zero == want || !impl.InGroup(sig) {
				t.Errorf("SignBits(%d, %d, said) = %v", seed, bits, sig)
			}
		}
	}
	for _, seed := range manySeeds() {
		for _, text := range []string{"", "said", allBytes()} {
			for _, bits := range []int{1, 63, 170, 252, 254} {
				keys := impl.Joined(impl.CommitteeOf(seed), bits)
				if impl.SumPoints(keys).Zero {
					continue
				}
				if !impl.AllSigOk(keys, text, impl.SignBits(seed, bits, text)) {
					t.Errorf("AllSigOk of seed %d, bits %d and %.20q is false", seed, bits, text)
				}
			}
		}
	}
}

// Of each committee those whose Keys together are Zero sign nothing, and nothing is signed by them.
func TestWhoIsZeroTogetherSignsNothing(t *testing.T) {
	found := 0
	for seed := range 1000 {
		secrets := wordedSecrets(seed)
		for bits := 1; bits < 256; bits++ {
			sum := 0
			for _, secret := range wordedJoined(secrets, bits) {
				sum += secret
			}
			if sum%1009 != 0 {
				continue
			}
			found++
			keys, sig := impl.Joined(impl.CommitteeOf(seed), bits), impl.SignBits(seed, bits, "said")
			if len(keys) != impl.CountBits(bits) || !impl.SumPoints(keys).Zero || sig != zeroPoint() {
				t.Errorf("seed %d and bits %d: the Keys are %v together, the signature is %v", seed, bits, impl.SumPoints(keys), sig)
			}
			noAllSig(t, keys, "said", sig)
			noAllSig(t, keys, "said", impl.HashPoint("said"))
		}
	}
	if found != 211 {
		t.Errorf("%d are Zero together, want 211", found)
	}
}

func TestWhoIsToldOtherwiseDidNotSign(t *testing.T) {
	for _, seed := range []int{3, 172, 999} {
		c := impl.CommitteeOf(seed)
		for _, bits := range []int{1, 7, 63, 129, 170, 252, 254, 255} {
			sig := impl.SignBits(seed, bits, "said")
			for place := range 8 {
				noAllSig(t, impl.Joined(c, bits^1<<place), "said", sig)
			}
			noAllSig(t, impl.Joined(c, bits), "said!", sig)
			noAllSig(t, impl.Joined(c, bits), "", sig)
			noAllSig(t, impl.Joined(c, 0), "said", sig)
			noAllSig(t, impl.Joined(impl.CommitteeOf(seed+1), bits), "said", sig)
		}
	}
}

func TestNobodyIsTold(t *testing.T) {
	for _, seed := range manySeeds() {
		c := impl.CommitteeOf(seed)
		for _, bits := range append(wrongBits(), 0) {
			for _, text := range []string{"", "said"} {
				if got := impl.SignBits(seed, bits, text); got != zeroPoint() {
					t.Errorf("SignBits(%d, %d, %q) = %v, want Zero", seed, bits, text, got)
				}
			}
			if got := impl.Joined(c, bits); len(got) != 0 || impl.CountBits(bits) != 0 {
				t.Errorf("Joined of seed %d and %d = %v, CountBits %d, want nothing and 0", seed, bits, got, impl.CountBits(bits))
			}
		}
		noAllSig(t, impl.Joined(c, 0), "said", impl.SignBits(seed, 0, "said"))
	}
}

func TestCommitteesOfOtherSizes(t *testing.T) {
	group := groupPoints[1:]
	for size := range 40 {
		c := impl.Committee{Keys: slices.Clone(group[:size])}
		if size != 8 {
			noCommittee(t, c)
			noCommittee(t, impl.Committee{Keys: slices.Repeat(group[4:5], size)})
		} else if !impl.CommitteeOk(c) {
			t.Errorf("CommitteeOk of 8 Keys is false")
		}
	}
	for _, size := range []int{64, 255, 256, 257, 264, 1000, 65536, 65544} {
		noCommittee(t, impl.Committee{Keys: slices.Repeat(group[9:10], size)})
	}
	noCommittee(t, impl.Committee{})
	noCommittee(t, impl.Committee{Keys: []impl.Point{}})
	for _, c := range manyCommittees() {
		noCommittee(t, impl.Committee{Keys: c.Keys[:7]})
		noCommittee(t, impl.Committee{Keys: c.Keys[1:]})
		noCommittee(t, impl.Committee{Keys: append(slices.Clone(c.Keys), c.Keys[0])})
		noCommittee(t, impl.Committee{Keys: append(slices.Clone(c.Keys), zeroPoint())})
	}
}

func TestCommitteesWithAKeyThatIsNone(t *testing.T) {
	c := impl.CommitteeOf(3)
	for _, key := range notKeys() {
		for place := range 8 {
			noCommittee(t, withKey(c, place, key))
		}
		noCommittee(t, impl.Committee{Keys: slices.Repeat([]impl.Point{key}, 8)})
		noCommittee(t, impl.Committee{Keys: append(slices.Clone(c.Keys), key)})
	}
	for place := range 7 {
		for _, low := range lowPoints() {
			other := withKey(c, place, impl.PointAdd(c.Keys[place], low))
			noCommittee(t, withKey(other, place+1, impl.PointAdd(c.Keys[place+1], impl.PointNeg(low))))
		}
	}
	noCommittee(t, impl.Committee{Keys: make([]impl.Point, 8)})
}

func TestReadCommitteeOfACutText(t *testing.T) {
	for _, c := range manyCommittees() {
		text := wordedCommitteeText(c)
		for size := range len(text) {
			noReadCommittee(t, text[:size])
			noReadCommittee(t, text[len(text)-size:])
		}
	}
	noReadCommittee(t, "")
	for size := range 100 {
		noReadCommittee(t, strings.Repeat("\x00", size))
		noReadCommittee(t, strings.Repeat("\x01", size))
		noReadCommittee(t, strings.Repeat("\xff", size))
		noReadCommittee(t, patterned(size))
	}
}

func TestReadCommitteeWithMoreBehind(t *testing.T) {
	for _, seed := range []int{0, 3, 172, 999} {
		text := wordedCommitteeText(committeeBy(wordedSecrets(seed)...))
		for b := range 256 {
			noReadCommittee(t, text+string([]byte{byte(b)}))
			noReadCommittee(t, string([]byte{byte(b)})+text)
		}
		for _, more := range []string{"\x00\x00", "\x00\x00\x00", text[:3], text[24:], text, patterned(27), patterned(256), patterned(20001), patterned(65536)} {
			noReadCommittee(t, text+more)
			noReadCommittee(t, more+text)
		}
	}
}

// What is read of a text with any byte turned has just that text.
func TestReadCommitteeOfATurnedByte(t *testing.T) {
	keys := keysByText()
	for _, seed := range []int{0, 3, 172, 999} {
		text := wordedCommitteeText(committeeBy(wordedSecrets(seed)...))
		for place := range len(text) {
			for b := range 256 {
				turned := []byte(text)
				turned[place] = byte(b)
				if taken := checkReadCommittee(t, keys, string(turned)); taken != (turned[place] == text[place]) {
					t.Errorf("ReadCommittee(%x) is %v, %x is the right one", turned, taken, text)
				}
			}
		}
	}
}

func TestReadCommitteeOfAnotherOrder(t *testing.T) {
	keys := keysByText()
	for _, c := range manyCommittees() {
		text := wordedCommitteeText(c)
		for i := range 9 {
			for j := range i {
				parts := [9]string{}
				for k := range parts {
					parts[k] = text[3*k : 3*k+3]
				}
				parts[i], parts[j] = parts[j], parts[i]
				other := strings.Join(parts[:], "")
				if taken := checkReadCommittee(t, keys, other); i < 8 && !taken {
					t.Errorf("ReadCommittee(%x) is false, two Keys of %x being moved", other, text)
				}
			}
		}
	}
}

func TestReadCommitteeOfAnotherSum(t *testing.T) {
	for _, seed := range []int{3, 172} {
		c := committeeBy(wordedSecrets(seed)...)
		text, taken := wordedCommitteeText(c), 0
		for _, p := range everyPoint() {
			other := text[:24] + wordedPointText(p)
			if _, ok := impl.ReadCommittee(other); ok {
				taken++
			}
			if p != wordedSumOf(c.Keys) {
				noReadCommittee(t, other)
			}
		}
		if taken != 1 {
			t.Errorf("%d sums are taken behind the Keys of seed %d, want 1", taken, seed)
		}
		for _, strange := range []string{"\x00\x00\x01", "\x00\x01\x01", "\x00\x00\x02", "\x2f\x4c\x00", "\x2f\x4c\x01", "\xff\xff\x00", "\xff\xff\xff", "\x00\x02\x00"} {
			noReadCommittee(t, text[:24]+strange)
		}
	}
}

// A Key that is none stands there with the sum that goes with it.
func TestReadCommitteeOfAKeyThatIsNone(t *testing.T) {
	c := impl.CommitteeOf(3)
	for _, key := range notKeys() {
		if !onTheCurve(key) {
			continue
		}
		for place := range 8 {
			noReadCommittee(t, wordedCommitteeText(withKey(c, place, key)))
		}
		noReadCommittee(t, strings.Repeat(wordedPointText(key), 8)+wordedPointText(wordedTimes(8, key)))
	}
	for place := range 7 {
		for _, low := range lowPoints() {
			other := withKey(c, place, wordedPointAdd(c.Keys[place], low))
			other = withKey(other, place+1, wordedPointAdd(c.Keys[place+1], impl.PointNeg(low)))
			noReadCommittee(t, wordedCommitteeText(other))
		}
	}
}

// With a text that is no point's or no Key's, no sum is the right one: not that of the other Keys, nor of those behind it, nor Zero.
func TestReadCommitteeOfATextThatIsNoPoints(t *testing.T) {
	c := impl.CommitteeOf(3)
	text := wordedCommitteeText(c)
	for place := range 8 {
		fewer := slices.Delete(slices.Clone(c.Keys), place, place+1)
		for _, strange := range []string{"\x00\x00\x00", "\x00\x00\x01", "\x00\x01\x01", "\x00\x02\x00", "\x00\x02\x01", "\x2f\x4c\x00", "\x2f\x4c\x01", "\x00\x00\xff", "\xff\xff\xff", "\x50\x49\x00"} {
			other := text[:3*place] + strange + text[3*place+3:]
			noReadCommittee(t, other)
			noReadCommittee(t, other[:24]+wordedPointText(wordedSumOf(fewer)))
			noReadCommittee(t, other[:24]+"\x00\x00\x00")
			noReadCommittee(t, other[:24]+wordedPointText(wordedSumOf(c.Keys[place+1:])))
			noReadCommittee(t, other[:24]+wordedPointText(wordedSumOf(append(fewer, at(0, 0)))))
		}
	}
	noReadCommittee(t, strings.Repeat("\x00", 27))
	noReadCommittee(t, strings.Repeat("\x00\x01\x00", 8)+"\x00\x00\x00")
}

func TestCommitteesLeaveTheirKeysAsTheyWere(t *testing.T) {
	list := manyCommittees()
	for _, key := range notKeys() {
		list = append(list, withKey(list[0], 5, key), impl.Committee{Keys: []impl.Point{key}})
	}
	list = append(list, impl.Committee{}, impl.Committee{Keys: list[0].Keys[:7]})
	for _, c := range list {
		keys := slices.Clone(c.Keys)
		room := impl.Committee{Keys: roomyPoints(keys)}
		impl.CommitteeOk(room)
		impl.CommitteeText(room)
		impl.CommitteeRoot(room)
		for _, bits := range []int{0, 1, 7, 128, 254, 255, 256, -1} {
			joined := impl.Joined(room, bits)
			for i := range joined {
				joined[i] = at(-3, -4)
			}
			_ = append(joined, at(-5, -6))
		}
		if !slices.Equal(room.Keys, keys) || !slices.Equal(room.Keys[len(keys):len(keys)+2], []impl.Point{at(-7, -8), at(-9, -10)}) {
			t.Errorf("of %v is left %v", keys, room.Keys[:len(keys)+2])
		}
	}
}

func TestCommitteesAnswerNewLists(t *testing.T) {
	for _, c := range manyCommittees() {
		first, second := impl.Joined(c, 255), impl.Joined(c, 255)
		text, _ := impl.CommitteeText(c)
		read, _ := impl.ReadCommittee(text)
		again, _ := impl.ReadCommittee(text)
		for i := range first {
			first[i], read.Keys[i] = at(-3, -4), at(-5, -6)
		}
		if !slices.Equal(second, c.Keys) || !slices.Equal(again.Keys, c.Keys) {
			t.Errorf("two answers for %x share memory", text)
		}
	}
	for _, seed := range []int{0, 3, 172} {
		c, secrets := impl.CommitteeOf(seed), impl.SecretsOf(seed)
		for i := range 8 {
			c.Keys[i], secrets[i] = zeroPoint(), -1
		}
		if !slices.Equal(impl.SecretsOf(seed), wordedSecrets(seed)) || !slices.Equal(impl.CommitteeOf(seed).Keys, committeeBy(wordedSecrets(seed)...).Keys) {
			t.Errorf("what seed %d makes hangs on what was done with it", seed)
		}
	}
}

// Nothing is kept from one call to another, not of what is refused either.
func TestCommitteesAreAnsweredAlikeAgain(t *testing.T) {
	for _, c := range manyCommittees() {
		text, _ := impl.CommitteeText(c)
		root, joined := impl.CommitteeRoot(c), impl.Joined(c, 219)
		noCommittee(t, withKey(c, 3, zeroPoint()))
		noReadCommittee(t, text+"\x00")
		again, ok := impl.CommitteeText(c)
		if again != text || !ok || impl.CommitteeRoot(c) != root || !slices.Equal(impl.Joined(c, 219), joined) {
			t.Errorf("the answers to %v are others the second time", c)
		}
		if back, ok := impl.ReadCommittee(text); !slices.Equal(back.Keys, c.Keys) || !ok {
			t.Errorf("ReadCommittee(%x) = %v, %v, want %v, true", text, back, ok, c)
		}
	}
}

// Whoever brings the Keys is gone when a call has answered, of a right committee and of a wrong one.
func TestCommitteesLeaveNobodyAtWork(t *testing.T) {
	ahead := runtime.NumGoroutine()
	c := impl.CommitteeOf(3)
	text, _ := impl.CommitteeText(c)
	for bits := range 256 {
		impl.Joined(c, bits)
		impl.CommitteeRoot(c)
		impl.ReadCommittee(text)
		impl.ReadCommittee(text[:24] + "\x00\x00\x00")
		impl.SignBits(3, bits, "said")
		noCommittee(t, withKey(c, bits%8, zeroPoint()))
		noCommittee(t, impl.Committee{Keys: c.Keys[:bits%8]})
	}
	for range 500 {
		if runtime.NumGoroutine() <= ahead {
			return
		}
		time.Sleep(10 * time.Millisecond)
	}
	t.Errorf("%d are at work, %d were ahead", runtime.NumGoroutine(), ahead)
}

func TestCommitteesAskedByMany(t *testing.T) {
	c := impl.CommitteeOf(3)
	text := wordedCommitteeText(c)
	var all sync.WaitGroup
	for range 8 {
		all.Go(func() {
			for bits := range 256 {
				if got, want := impl.Joined(c, bits), wordedJoined(c.Keys, bits); !slices.Equal(got, want) {
					t.Errorf("Joined(%v, %d) = %v, want %v", c, bits, got, want)
				}
				if got, ok := impl.CommitteeText(c); got != text || !ok {
					t.Errorf("CommitteeText(%v) = %x, %v, want %x, true", c, got, ok, text)
				}
			}
		})
	}
	all.Wait()
}
