package tests

import (
	"encoding/hex"
	"fmt"
	"math"
	"reflect"
	"slices"
	"strings"
	"testing"
	"unsafe"

	"loop.example/g00321/impl"
)

// pairOf is of a key that figures tell.
func pairOf(figures string, value string) impl.Pair {
	key, err := hex.DecodeString(figures)
	if err != nil {
		panic(err)
	}
	return impl.Pair{Key: string(key), Value: value}
}

func keyFigures(key string) string {
	return hex.EncodeToString([]byte(key))
}

func wordedPairsOk(list []impl.Pair) bool {
	keys := []string{}
	right := len(list) <= 12
	for _, pair := range list {
		keys = append(keys, keyFigures(pair.Key))
		right = right && len(pair.Key) == 4 && len(pair.Value) > 0 && len(pair.Value) <= 60
	}
	sorted := slices.Compact(slices.Sorted(slices.Values(keys)))
	return right && slices.Equal(keys, sorted)
}

// wordedSameUpTo is whether the keys of all pairs begin with the same so many halves.
func wordedSameUpTo(list []impl.Pair, at int) bool {
	begins := map[string]bool{}
	for _, pair := range list {
		if at > len(keyFigures(pair.Key)) {
			return false
		}
		begins[keyFigures(pair.Key)[:at]] = true
	}
	return len(begins) < 2
}

// havingHalf are the pairs whose keys have the half there.
func havingHalf(list []impl.Pair, at int, figure byte) []impl.Pair {
	some := []impl.Pair{}
	for _, pair := range list {
		if keyFigures(pair.Key)[at] == figure {
			some = append(some, pair)
		}
	}
	return some
}

// wordedShared is up to which half the keys of two pairs or more are the same.
func wordedShared(list []impl.Pair) int {
	shared := 0
	for wordedSameUpTo(list, shared+1) {
		shared++
	}
	return shared
}

func wordedTrieItem(list []impl.Pair, at int) impl.Item {
	if !wordedPairsOk(list) || at < 0 || at > 8 || !wordedSameUpTo(list, at) || len(list) == 0 {
		return textItem("")
	}
	figures := keyFigures(list[0].Key)
	if len(list) == 1 {
		return listItem(textItem(wordedPrefix(halvesBy(figures[at:]), true)), textItem(list[0].Value))
	}
	if shared := wordedShared(list); shared > at {
		return listItem(textItem(wordedPrefix(halvesBy(figures[at:shared]), false)), wordedTrieRef(wordedTrieItem(list, shared)))
	}
	kids := []impl.Item{}
	for i := range len(halfFigures) {
		kids = append(kids, wordedTrieRef(wordedTrieItem(havingHalf(list, at, halfFigures[i]), at+1)))
	}
	return listItem(append(kids, textItem(""))...)
}

// wordedTrieRef takes the text of an item that has none for that of nothing.
func wordedTrieRef(x impl.Item) impl.Item {
	if !wordedItemOk(x) || len(wordedItemText(x)) > 900 {
		return textItem(impl.Digest(""))
	}
	if text := wordedItemText(x); len(text) > 31 {
		return textItem(impl.Digest(text))
	}
	return x
}

func wordedTrieRoot(list []impl.Pair) string {
	if !wordedPairsOk(list) {
		return ""
	}
	return impl.Digest(wordedItemText(wordedTrieItem(list, 0)))
}

func wordedProveTrie(list []impl.Pair, key string) []string {
	if !wordedPairsOk(list) || len(key) != 4 {
		return nil
	}
	return append([]string{wordedItemText(wordedTrieItem(list, 0))}, textsBelow(list, keyFigures(key), 0)...)
}

// textsBelow are the texts on the way below the item that stands for the pairs.
func textsBelow(list []impl.Pair, figures string, at int) []string {
	if len(list) < 2 {
		return nil
	}
	below, from := list, wordedShared(list)
	if from > at && keyFigures(list[0].Key)[:from] != figures[:from] {
		return nil
	}
	if from == at {
		below, from = havingHalf(list, at, figures[at]), at+1
	}
	texts := []string{}
	if text := wordedItemText(wordedTrieItem(below, from)); len(text) > 31 {
		texts = append(texts, text)
	}
	return append(texts, textsBelow(below, figures, from)...)
}

// trieSaid is what VerifyTrie says.
type trieSaid struct {
	value string
	there bool
	code  int
}

func verified(root string, key string, proof []string) trieSaid {
	value, there, code := impl.VerifyTrie(root, key, proof)
	return trieSaid{value, there, code}
}

func wordedVerify(root string, key string, proof []string) trieSaid {
	if len(root) != 32 || len(key) != 4 || len(proof) < 1 || len(proof) > 12 {
		return trieSaid{code: 1}
	}
	x, ok := wordedReadItem(proof[0])
	if ok && impl.Digest(proof[0]) == root && reflect.DeepEqual(x, textItem("")) {
		return saidAtEnd(trieSaid{}, proof[1:])
	}
	return saidOfText(root, keyFigures(key), proof)
}

// saidOfText is what the first text says of the figures left, which has to have that digest.
func saidOfText(digest string, figures string, proof []string) trieSaid {
	if len(proof) == 0 {
		return trieSaid{code: 3}
	}
	x, ok := wordedReadItem(proof[0])
	if !ok || impl.Digest(proof[0]) != digest {
		return trieSaid{code: 2}
	}
	return saidOfList(x, figures, proof[1:])
}

func saidOfList(x impl.Item, figures string, left []string) trieSaid {
	if len(x.Kids) == 17 {
		place := len(x.Kids)
		if figures != "" {
			place = strings.IndexByte(halfFigures, figures[0])
		}
		if place == 17 || wordedItemText(x.Kids[place]) == "\x80" {
			return saidAtEnd(trieSaid{}, left)
		}
		return saidBehind(x.Kids[place], figures[1:], left)
	}
	if len(x.Kids) != 2 || x.Kids[0].List {
		return trieSaid{code: 3}
	}
	halves, leaf, ok := wordedReadPrefix(x.Kids[0].Text)
	if !ok {
		return trieSaid{code: 3}
	}
	behind, begins := strings.CutPrefix(figures, figuresBy(halves))
	if !begins || leaf && behind != "" {
		return saidAtEnd(trieSaid{}, left)
	}
	if !leaf {
		return saidBehind(x.Kids[1], behind, left)
	}
	if x.Kids[1].List {
		return trieSaid{code: 3}
	}
	return saidAtEnd(trieSaid{x.Kids[1].Text, true, 0}, left)
}

func saidBehind(x impl.Item, figures string, left []string) trieSaid {
	if x.List {
		return saidOfList(x, figures, left)
	}
	if len(x.Text) != 32 {
		return trieSaid{code: 3}
	}
	return saidOfText(x.Text, figures, left)
}

func saidAtEnd(said trieSaid, left []string) trieSaid {
	if len(left) > 0 {
		return trieSaid{code: 4}
	}
	return said
}

func pairsTold(list []impl.Pair) string {
	line := fmt.Sprintf("%d pairs:", len(list))
	for _, pair := range list[:min(len(list), 13)] {
		line += fmt.Sprintf(" %x=%.12q(%d)", pair.Key, pair.Value, len(pair.Value))
	}
	return line
}

func proofTold(proof []string) string {
	line := fmt.Sprintf("%d texts:", len(proof))
	for _, text := range proof[:min(len(proof), 13)] {
		line += fmt.Sprintf(" %.100x", text)
	}
	return line
}

func checkTrieItem(t *testing.T, list []impl.Pair, at int) {
	t.Helper()
	if got, want := impl.TrieItem(list, at), wordedTrieItem(list, at); !wordedSame(got, want) {
		t.Errorf("TrieItem of %s at %d = %s, want %s", pairsTold(list), at, itemTold(got), itemTold(want))
	}
}

func checkTrieRef(t *testing.T, x impl.Item) {
	t.Helper()
	if got, want := impl.TrieRef(x), wordedTrieRef(x); !wordedSame(got, want) {
		t.Errorf("TrieRef(%s) = %s, want %s", itemTold(x), itemTold(got), itemTold(want))
	}
}

func checkProveTrie(t *testing.T, list []impl.Pair, key string) []string {
	t.Helper()
	got, want := impl.ProveTrie(list, key), wordedProveTrie(list, key)
	if !slices.Equal(got, want) {
		t.Errorf("ProveTrie of %s for %x = %s, want %s", pairsTold(list), key, proofTold(got), proofTold(want))
	}
	return got
}

// checkVerify asks for what the document's words say, and answers it.
func checkVerify(t *testing.T, root string, key string, proof []string) trieSaid {
	t.Helper()
	got, want := verified(root, key, proof), wordedVerify(root, key, proof)
	if got != want {
		t.Errorf("VerifyTrie(%x, %x, %s) = %v, want %v", root, key, proofTold(proof), got, want)
	}
	return got
}

func noVerify(t *testing.T, root string, key string, proof []string, code int) {
	t.Helper()
	if got := checkVerify(t, root, key, proof); got != (trieSaid{code: code}) {
		t.Errorf("VerifyTrie(%x, %x, %s) = %v, want nothing, false, %d", root, key, proofTold(proof), got, code)
	}
}

func isThere(t *testing.T, root string, key string, proof []string, value string) {
	t.Helper()
	if got := checkVerify(t, root, key, proof); got != (trieSaid{value, true, 0}) {
		t.Errorf("VerifyTrie(%x, %x, %s) = %v, want %q, true, 0", root, key, proofTold(proof), got, value)
	}
}

func notThere(t *testing.T, root string, key string, proof []string) {
	t.Helper()
	noVerify(t, root, key, proof, 0)
}

// keysAbout are keys beside those of a list: each half of each key turned, and some far ones.
func keysAbout(list []impl.Pair) []string {
	keys := []string{"\x00\x00\x00\x00", "\xff\xff\xff\xff", "aaaa", "\x0f\xf0\x00\xff", "\ufffd\x80"}
	for _, pair := range list {
		for place := range len(pair.Key) {
			for _, turn := range []byte{1, 15, 128} {
				key := []byte(pair.Key)
				key[place] ^= turn
				keys = append(keys, string(key))
			}
		}
	}
	return keys
}

func valueOf(list []impl.Pair, key string) (string, bool) {
	for _, pair := range list {
		if pair.Key == key {
			return pair.Value, true
		}
	}
	return "", false
}

// checkTrie asks all functions for their answers to right pairs.
func checkTrie(t *testing.T, list []impl.Pair) {
	t.Helper()
	if !impl.PairsOk(list) || !wordedPairsOk(list) {
		t.Errorf("PairsOk of %s is %v", pairsTold(list), impl.PairsOk(list))
	}
	for at := -2; at <= 10; at++ {
		checkTrieItem(t, list, at)
	}
	root := impl.TrieRoot(list)
	if text, ok := impl.ItemText(impl.TrieItem(list, 0)); root != impl.Digest(text) || !ok || root != wordedTrieRoot(list) {
		t.Errorf("TrieRoot of %s = %x, want %x", pairsTold(list), root, wordedTrieRoot(list))
	}
	for _, pair := range list {
		isThere(t, root, pair.Key, checkProveTrie(t, list, pair.Key), pair.Value)
	}
	for _, key := range keysAbout(list) {
		if value, there := valueOf(list, key); there {
			isThere(t, root, key, checkProveTrie(t, list, key), value)
		} else {
			notThere(t, root, key, checkProveTrie(t, list, key))
		}
	}
}

func noPairs(t *testing.T, list []impl.Pair) {
	t.Helper()
	if impl.PairsOk(list) || wordedPairsOk(list) {
		t.Errorf("PairsOk of %s is %v", pairsTold(list), impl.PairsOk(list))
	}
	for at := -1; at <= 9; at++ {
		if x := impl.TrieItem(list, at); !wordedSame(x, textItem("")) {
			t.Errorf("TrieItem of %s at %d = %s, want the Text of nothing", pairsTold(list), at, itemTold(x))
		}
	}
	if root := impl.TrieRoot(list); root != "" {
		t.Errorf("TrieRoot of %s = %x, want nothing", pairsTold(list), root)
	}
	for _, key := range []string{"aaaa", "\x00\x00\x00\x00", ""} {
		noProveTrie(t, list, key)
	}
	for _, pair := range list {
		noProveTrie(t, list, pair.Key)
	}
}

func noProveTrie(t *testing.T, list []impl.Pair, key string) {
	t.Helper()
	if proof := impl.ProveTrie(list, key); len(proof) != 0 {
		t.Errorf("ProveTrie of %s for %x = %s, want nothing", pairsTold(list), key, proofTold(proof))
	}
}

// pairsBy are pairs with keys that figures tell, in ascending order, whose values have those sizes in turn.
func pairsBy(sizes []int, figures ...string) []impl.Pair {
	list := []impl.Pair{}
	for i, key := range figures {
		size, from := sizes[i%len(sizes)], 5*(i%13)
		list = append(list, pairOf(key, patterned(from + size)[from:]))
	}
	slices.SortFunc(list, func(a, b impl.Pair) int { return strings.Compare(a.Key, b.Key) })
	return list
}

// keyShapes are keys of right pairs: such as part at one half or at many, and such as have much in common.
func keyShapes() [][]string {
	shapes := [][]string{
		{}, {"00000000"}, {"ffffffff"}, {"61626364"}, {"0f0f0f0f"}, {"efbfbd80"},
		{"00000000", "ffffffff"}, {"00000000", "00000001"}, {"00000000", "00000010"}, {"ffffff0f", "ffffffff"}, {"fffffffe", "ffffffff"},
		{"61616161", "61616162", "7a7a7a7a"}, {"00ff00ff", "00ff00fe", "00ff0fff"}, {"ff00ff00", "00ff00ff"},
		{"00000000", "00000001", "00000010", "00000100", "00001000", "00010000", "00100000", "01000000", "10000000"},
		{"ffffffff", "fffffffe", "ffffffef", "fffffeff", "ffffefff", "fffeffff", "ffefffff", "feffffff", "efffffff", "ffffff00", "00000000", "0000ffff"},
		{"ffffffff", "fffffffe", "ffffeeff", "ffffeefe", "eeeeffff", "eeeefffe", "eeeeeeff", "eeeeeefe"},
		{"00000000", "00000001", "00000020", "00000021", "00030000", "00030001", "00030020", "00030021"},
		{"12345678", "12345679", "1234567a", "1234567b", "1234567c", "1234567d", "1234567e", "1234567f", "12345670", "12345671", "12345672", "12345673"},
		{"02345678", "12345678", "22345678", "32345678", "42345678", "52345678", "62345678", "72345678", "82345678", "c2345678", "e2345678", "f2345678"},
		{"00000000", "00000001", "10000000"}, {"00000000", "00000001", "0000000f", "f0000000"}, {"a0000000", "a0000001", "a1000000"},
	}
	for place := range 8 {
		both := []string{}
		for _, figure := range []byte{'0', '7', '8', 'f'} {
			key := []byte("3c3c3c3c")
			key[place] = figure
			both = append(both, string(key))
			shapes = append(shapes, slices.Clone(both[len(both)-min(2, len(both)):]))
		}
		shapes = append(shapes, both)
	}
	return shapes
}

// scatteredKeys are keys of few halves, so that many have much in common.
func scatteredKeys(start uint64, count int) []string {
	keys := []string{}
	for i := uint64(0); len(keys) < count; i++ {
		halves := scatteredHalves(start+977*i, 8)
		kinds := 2 + int(start%3)*7
		for at := range halves {
			halves[at] %= kinds
			// The beginnings come from fewer yet.
			if at < int(start/3%8) {
				halves[at] = halves[at] % 2 * (halves[at] % 3)
			}
		}
		if key := figuresBy(halves); !slices.Contains(keys, key) {
			keys = append(keys, key)
		}
	}
	return keys
}

func valueSizes() [][]int {
	return [][]int{{1}, {2}, {3, 1, 30}, {60}, {25, 26, 27, 28}, {31, 32, 33}, {1, 60}, {20, 1, 1, 21}}
}

// manyPairs are right lists of all kinds.
func manyPairs() [][]impl.Pair {
	all := [][]impl.Pair{nil, {}}
	for i, shape := range keyShapes() {
		for j, sizes := range valueSizes() {
			if i%2 == j%2 {
				all = append(all, pairsBy(sizes, shape...))
			}
		}
	}
	for start := range uint64(120) {
		sizes := valueSizes()[start%8]
		all = append(all, pairsBy(sizes, scatteredKeys(start, int(start%13))...))
	}
	return all
}

// keptPairs are a few of them.
func keptPairs() [][]impl.Pair {
	all := [][]impl.Pair{nil, {}}
	for i, shape := range keyShapes() {
		all = append(all, pairsBy(valueSizes()[i%8], shape...), pairsBy([]int{1}, shape...))
	}
	return all
}

func TestTrieLimits(t *testing.T) {
	if impl.KeySize != 4 || impl.MaxPairs != 12 {
		t.Errorf("KeySize = %d, MaxPairs = %d, want 4 and 12", impl.KeySize, impl.MaxPairs)
	}
	pair := reflect.TypeFor[impl.Pair]()
	if pair.NumField() != 2 {
		t.Fatalf("a Pair has %d fields, want 2", pair.NumField())
	}
	for i, name := range []string{"Key", "Value"} {
		if field := pair.Field(i); field.Name != name || field.Type != reflect.TypeFor[string]() {
			t.Errorf("field %d of a Pair is %v %v, want %v string", i, field.Name, field.Type, name)
		}
	}
}

// trieForms are right pairs, the root and the proof of a key; the figures were worked out apart from the program.
func trieForms() []struct {
	list  []impl.Pair
	key   string
	root  string
	texts []string
} {
	deep := []impl.Pair{}
	for i, figures := range []string{"00000000", "00000001", "00000010", "00000100", "00001000", "00010000", "00100000", "01000000", "10000000"} {
		deep = append(deep, pairOf(figures, string([]byte{byte(i + 1)})))
	}
	zeros := strings.Repeat("80", 15)
	return []struct {
		list  []impl.Pair
		key   string
		root  string
		texts []string
	}{
		{nil, "aaaa", "56e81f171bcc55a6ff8345e692c0f86e5b48e01b996cadc001622fb5e363b421", []string{"80"}},
		{[]impl.Pair{{Key: "aaaa", Value: "one"}}, "aaaa", "d569f56af3ff29c177a2664abf2223037bbc87865ebf75604da69f4477840809", []string{"ca852061616161836f6e65"}},
		{[]impl.Pair{{Key: "aaaa", Value: "one"}, {Key: "aaab", Value: "two"}, {Key: "zzzz", Value: "three"}}, "aaab", "c0031f81b8cbb27e1351cc0041c1451b538c4b492a206df9bc9d7116259a2868", []string{
			"f83c808080808080a0d3d1b2a6fefed34b1d9460a48440ddca51591c8dbf385d77be838cda74522900cb843a7a7a7a857468726565808080808080808080",
			"e18400161616db80c520836f6e65c5208374776f8080808080808080808080808080",
		}},
		{[]impl.Pair{pairOf("00000000", "\x01"), pairOf("00000001", "\x02")}, "\x00\x00\x00\x00", "9729c0d93048a283cbf6c29e0bbf765540bde70996799b97ecf153449432b89a", []string{"db8410000000d5c22001c22002" + zeros}},
		{[]impl.Pair{pairOf("00000000", "\x01"), pairOf("ffffffff", "\x80")}, "\x00\x00\x00\x00", "0b5f0fafdb513887d9a7b39b33fbdaa4c5f752a21450115a1cad627f79398396", []string{"dec6843000000001" + zeros[:28] + "c7843fffffff818080"}},
		{[]impl.Pair{{Key: "ab\x12c", Value: "left"}, {Key: "ab\x32c", Value: "right"}}, "ab\x12c", "a8d0932011765f073de67498e30d220bb0444ecf64b0fdf47badc640564cb616", []string{
			"e583006162a04904075c861ac01899d2f771c4d291e3d5d65ef1ee63271d40387ba68891c888",
			"e280c8823263846c65667480c982326385726967687480808080808080808080808080",
		}},
		{[]impl.Pair{pairOf("00000000", "A"), pairOf("00000001", "B"), pairOf("10000000", "C")}, "\x00\x00\x00\x00", "b1a7c492e840fd7101188d06fee5d759ad804279a40a9bc83546049d69a55cd6", []string{
			"f2db8400000000d5c22041c22042" + zeros + "c6843000000043" + zeros,
		}},
		{[]impl.Pair{{Key: "dog1", Value: strings.Repeat("p", 32)}, {Key: "dog2", Value: strings.Repeat("q", 60)}, {Key: "dot1", Value: "r"}}, "dog2", "435e552f266ee93d76161699ab4f9d94dc644f78ab5cc7abe43106eb2421beb9", []string{
			"e58300646fa038900f0bdf29ead091c95314ad5a4cdbb8157ef7d431adc9731cc0cae7807909",
			"f5808080808080a0877ce1792df7c3d17b1565df9cb30f60459fe861086bb8329886f30ad3eb2b35c482343172808080808080808080",
			"e4820073a07a707d276d410846ef47147203b5f24748fe80b24e9ff6b5f4d9682b8183a0b4",
			"f85180a0f951e4abc6c98655c4fc10ee8f46405b8c90294fda1966588f4c6f328ce5d7a1a01601398d85b6835d3cd6d2832d5b379b6154a6f0dce6112f8a60d904b107998b8080808080808080808080808080",
			"f83f20b83c" + strings.Repeat("71", 60),
		}},
		{deep, "\x00\x00\x00\x00", "cc277a3800ceac93db49e627437dc67a437b955eb6c0ea84569460253238a674", []string{
			"f7a00a39e4a2d5acebaf0e488a7d0b0d635071ac4c3c202ee16ae017952fed281f72c6843000000009" + zeros,
			"f7a01ef20101a214a82bbc46685eb2543787fe5da55de91f9337f5f5d6412fb620cbc6842000000008" + zeros,
			"f6a0476b826d3836470d904817790bf5b797f305a7bc360a5ec5ed22259c68f59d74c58330000007" + zeros,
			"f6a0534461bc9dc5834bd8f8a9b3d440003c27d24c1735dd6ab42257c017fef81a2ec58320000006" + zeros,
			"f5a05d1fbed76d5edec16af3f7bd9e945922803657360bd303fe609e2fadb960c59cc482300005" + zeros,
			"f5a0cdc13596cd6b10c4c87c9834735493c016d530033528f8933faf21fedeacfb86c482200004" + zeros,
			"e8d5c22001c22002" + zeros + "c23003" + zeros,
		}},
	}
}

func TestTrieForms(t *testing.T) {
	for _, form := range trieForms() {
		root, proof := fromFigures(t, form.root), []string{}
		for _, figures := range form.texts {
			proof = append(proof, fromFigures(t, figures))
		}
		if got := impl.TrieRoot(form.list); got != root || wordedTrieRoot(form.list) != root {
			t.Errorf("TrieRoot of %s = %x, by the words %x, want %s", pairsTold(form.list), got, wordedTrieRoot(form.list), form.root)
		}
		if got := checkProveTrie(t, form.list, form.key); !slices.Equal(got, proof) {
			t.Errorf("ProveTrie of %s for %x = %s, want %s", pairsTold(form.list), form.key, proofTold(got), proofTold(proof))
		}
		if value, there := valueOf(form.list, form.key); there {
			isThere(t, root, form.key, proof, value)
		} else {
			notThere(t, root, form.key, proof)
		}
		checkTrie(t, form.list)
	}
	if root := impl.EmptyRoot(); root != fromFigures(t, trieForms()[0].root) {
		t.Errorf("EmptyRoot is %x, want %s", root, trieForms()[0].root)
	}
}

// The items were written down by hand.
func TestTrieItemForms(t *testing.T) {
	leafAt := func(figures string, value string) impl.Item {
		return listItem(textItem(fromFigures(t, figures)), textItem(value))
	}
	forked := func(figure int, x impl.Item, other int, y impl.Item) impl.Item {
		return trieFork(map[int]impl.Item{figure: x, other: y})
	}
	one := []impl.Pair{pairOf("1234abcd", "v")}
	for at, figures := range []string{"201234abcd", "3234abcd", "2034abcd", "34abcd", "20abcd", "3bcd", "20cd", "3d", "20"} {
		isTrieItem(t, one, at, leafAt(figures, "v"))
	}
	two := []impl.Pair{pairOf("12345670", "a"), pairOf("1234567f", "b")}
	fork := forked(0, leafAt("20", "a"), 15, leafAt("20", "b"))
	for at, figures := range []string{"11234567", "00234567", "134567", "004567", "1567", "0067", "17"} {
		isTrieItem(t, two, at, listItem(textItem(fromFigures(t, figures)), fork))
	}
	isTrieItem(t, two, 7, fork)
	isTrieItem(t, []impl.Pair{pairOf("00000000", "a"), pairOf("80000000", "b")}, 0, forked(0, leafAt("30000000", "a"), 8, leafAt("30000000", "b")))
	isTrieItem(t, []impl.Pair{pairOf("00ff0000", "a"), pairOf("00ffff00", "b")}, 4, forked(0, leafAt("3000", "a"), 15, leafAt("3f00", "b")))
	isTrieItem(t, []impl.Pair{pairOf("00ff0000", "a"), pairOf("00ff0f00", "b")}, 3, listItem(textItem("\x00\xf0"), forked(0, leafAt("2000", "a"), 15, leafAt("2000", "b"))))
	long := strings.Repeat("x", 28)
	// What stands for a leaf of 28 bytes has 31 bytes, one of 29 has 32.
	isTrieItem(t, []impl.Pair{pairOf("00000000", long), pairOf("00000001", long+"x")}, 7, forked(0, leafAt("20", long), 1, textItem(impl.Digest("\xdf\x20\x9d"+long+"x"))))
}

func isTrieItem(t *testing.T, list []impl.Pair, at int, want impl.Item) {
	t.Helper()
	if got := impl.TrieItem(list, at); !wordedSame(got, want) || !wordedSame(wordedTrieItem(list, at), want) {
		t.Errorf("TrieItem of %s at %d = %s, by the words %s, want %s", pairsTold(list), at, itemTold(got), itemTold(wordedTrieItem(list, at)), itemTold(want))
	}
}

// trieFork is a List of 17 with these Kids.
func trieFork(kids map[int]impl.Item) impl.Item {
	x := listItem(make([]impl.Item, 17)...)
	for place, kid := range kids {
		x.Kids[place] = kid
	}
	return x
}

// The promise: what a trie holds is proven, and what it does not hold is not.
func TestTriesHold(t *testing.T) {
	for _, list := range manyPairs() {
		checkTrie(t, list)
	}
}

// At every right half the item is one that stands in a trie, and is right.
func TestTrieItemsAreRight(t *testing.T) {
	for _, list := range manyPairs() {
		for at := 0; at <= 8; at++ {
			x := impl.TrieItem(list, at)
			text, ok := impl.ItemText(x)
			if back, read := impl.ReadItem(text); !ok || !read || !wordedSame(back, x) || !impl.ItemOk(x) {
				t.Errorf("TrieItem of %s at %d = %s, which is not right", pairsTold(list), at, itemTold(x))
			}
			checkTrieRef(t, x)
		}
	}
}

// What is handed in stands in one order alone, and one pair more or less makes another root.
func TestEachPairCountsInARoot(t *testing.T) {
	roots := map[string]string{}
	for _, list := range manyPairs() {
		root, whole := impl.TrieRoot(list), fmt.Sprint(list)
		if was, met := roots[root]; met && was != whole {
			t.Errorf("%s and %s have one root", was, whole)
		}
		roots[root] = whole
		for i := range list {
			fewer := slices.Delete(slices.Clone(list), i, i+1)
			turned := slices.Clone(list)
			turned[i].Value = string([]byte{turned[i].Value[0] ^ 1}) + turned[i].Value[1:]
			for _, other := range [][]impl.Pair{fewer, turned} {
				if impl.TrieRoot(other) == root || impl.TrieRoot(other) != wordedTrieRoot(other) {
					t.Errorf("TrieRoot of %s is that of %s", pairsTold(other), pairsTold(list))
				}
			}
		}
	}
}

// Pairs that come one by one in any order, each to its place, make the same trie.
func TestTriesFromAnyOrder(t *testing.T) {
	for start, list := range manyPairs() {
		order := scatteredScalars(uint64(start), len(list))
		built := []impl.Pair{}
		places := []int{}
		for i := range list {
			places = append(places, i)
		}
		slices.SortFunc(places, func(a, b int) int { return order[a] - order[b] })
		for _, place := range places {
			at, _ := slices.BinarySearchFunc(built, list[place], func(a, b impl.Pair) int { return strings.Compare(a.Key, b.Key) })
			built = slices.Insert(built, at, list[place])
			if impl.TrieRoot(built) != wordedTrieRoot(built) {
				t.Errorf("TrieRoot of %s = %x, want %x", pairsTold(built), impl.TrieRoot(built), wordedTrieRoot(built))
			}
		}
		if impl.TrieRoot(built) != impl.TrieRoot(list) {
			t.Errorf("%s have two roots", pairsTold(list))
		}
	}
}

func TestCountsOfPairs(t *testing.T) {
	for _, start := range []uint64{0, 1, 2, 5, 9, 20} {
		keys := scatteredKeys(start, 13)
		for count := range 14 {
			list := pairsBy(valueSizes()[(int(start)+count)%8], keys[:count]...)
			if count <= 12 {
				checkTrie(t, list)
			} else {
				noPairs(t, list)
			}
		}
	}
	for _, count := range []int{13, 14, 16, 17, 24, 100, 65536} {
		keys := []string{}
		for i := range count {
			keys = append(keys, fmt.Sprintf("%08x", 5*i))
		}
		list := pairsBy([]int{1}, keys...)
		if impl.PairsOk(list) || impl.TrieRoot(list) != "" {
			t.Errorf("%d pairs are right", count)
		}
	}
}

func TestSizesOfKeys(t *testing.T) {
	for _, size := range []int{0, 1, 2, 3, 4, 5, 6, 8, 31, 32, 64, 260} {
		key := strings.Repeat("k", size)
		alone := []impl.Pair{{Key: key, Value: "v"}}
		if size == 4 {
			checkTrie(t, alone)
		} else {
			noPairs(t, alone)
		}
		for place := range 3 {
			list := []impl.Pair{{Key: "aaaa", Value: "1"}, {Key: "nnnn", Value: "2"}, {Key: "zzzz", Value: "3"}}
			list[place].Key = (list[place].Key + strings.Repeat(list[place].Key, 100))[:size]
			if size != 4 {
				noPairs(t, list)
			}
			checkProveTrie(t, []impl.Pair{{Key: "aaaa", Value: "1"}, {Key: "nnnn", Value: "2"}, {Key: "zzzz", Value: "3"}}, list[place].Key)
		}
		for _, list := range [][]impl.Pair{nil, alone, {{Key: "kkkk", Value: "v"}}, {{Key: "kkka", Value: "a"}, {Key: "kkkk", Value: "v"}}} {
			if size != 4 {
				noProveTrie(t, list, key)
			}
			checkProveTrie(t, list, key)
		}
	}
}

func TestSizesOfValues(t *testing.T) {
	for _, size := range []int{0, 1, 2, 27, 28, 29, 30, 31, 32, 33, 54, 55, 56, 59, 60, 61, 62, 256, 257, 316, 600, 900} {
		for _, value := range fillings(size) {
			lists := [][]impl.Pair{{{Key: "kkkk", Value: value}}}
			for place := range 3 {
				list := []impl.Pair{{Key: "kkka", Value: "1"}, {Key: "kkkn", Value: "2"}, {Key: "kkzz", Value: "3"}}
				list[place].Value = value
				lists = append(lists, list)
			}
			for _, list := range lists {
				if size >= 1 && size <= 60 {
					checkTrie(t, list)
				} else {
					noPairs(t, list)
				}
			}
		}
	}
}

func TestKeysThatDoNotAscend(t *testing.T) {
	for _, figures := range [][]string{
		{"00000000", "00000000"}, {"ffffffff", "ffffffff"}, {"00000001", "00000000"}, {"ffffffff", "00000000"}, {"80000000", "7fffffff"}, {"10000000", "01000000"}, {"00800000", "007f0000"},
		{"00000000", "00000001", "00000001"}, {"00000000", "00000000", "00000001"}, {"00000000", "00000002", "00000001"}, {"00000001", "00000000", "00000002"}, {"00000000", "00000001", "00000000"},
	} {
		list := []impl.Pair{}
		for i, key := range figures {
			list = append(list, pairOf(key, string([]byte{byte('a' + i)})))
		}
		noPairs(t, list)
		for i := range list {
			list[i].Value = "same"
		}
		noPairs(t, list)
	}
	for _, whole := range keptPairs() {
		for i := 1; i < len(whole); i++ {
			turned := slices.Clone(whole)
			turned[i-1], turned[i] = turned[i], turned[i-1]
			noPairs(t, turned)
			twice := slices.Insert(slices.Clone(whole), i, whole[i-1])
			noPairs(t, twice)
		}
	}
}

func TestHalvesOfTrieItems(t *testing.T) {
	for _, list := range keptPairs() {
		for _, at := range []int{-1, 9, 10, 16, 17, 32, 256, 257, math.MaxInt, math.MaxInt - 1, math.MaxInt - 7, math.MinInt, math.MinInt + 1, math.MinInt + 8, -2, -8, -9, 1 << 32, -1 << 32} {
			if x := impl.TrieItem(list, at); !wordedSame(x, textItem("")) {
				t.Errorf("TrieItem of %s at %d = %s, want the Text of nothing", pairsTold(list), at, itemTold(x))
			}
		}
		for at := range 9 {
			x := impl.TrieItem(list, at)
			if wants := len(list) > 0 && wordedSameUpTo(list, at) && (len(list) == 1 || at < 8); x.List != wants {
				t.Errorf("TrieItem of %s at %d = %s", pairsTold(list), at, itemTold(x))
			}
		}
	}
	// The middle one alone differs, or the first, or the last.
	for _, figures := range [][]string{{"aabb0000", "aabbcc00", "aabbccdd"}, {"0abb0000", "aabbcc00", "aabbccdd"}, {"aabb0000", "aabb0001", "aacb0000"}} {
		list := pairsBy([]int{1}, figures...)
		for at := range 10 {
			checkTrieItem(t, list, at)
		}
	}
}

// An item's text of 1 to 31 bytes is few enough to stand there itself.
func TestTrieRefs(t *testing.T) {
	for _, form := range []struct {
		x    impl.Item
		want impl.Item
	}{
		{impl.Item{}, impl.Item{}},
		{textItem("a"), textItem("a")},
		{textItem("\x80"), textItem("\x80")},
		{listItem(), listItem()},
		{textItem(patterned(30)), textItem(patterned(30))},
		{textItem(patterned(31)), textItem(impl.Digest("\x9f" + patterned(31)))},
		{textItem(patterned(32)), textItem(impl.Digest("\xa0" + patterned(32)))},
		{listItem(textItem(patterned(29))), listItem(textItem(patterned(29)))},
		{listItem(textItem(patterned(30))), textItem(impl.Digest("\xdf\x9e" + patterned(30)))},
		{listItem(textItem(patterned(31))), textItem(impl.Digest("\xe0\x9f" + patterned(31)))},
		{nested(4, textItem("a")), nested(4, textItem("a"))},
		{nested(5, textItem("a")), textItem(impl.Digest(""))},
		{impl.Item{List: true, Text: "a"}, textItem(impl.Digest(""))},
		{impl.Item{Kids: textKids(1)}, textItem(impl.Digest(""))},
		{textItem(patterned(601)), textItem(impl.Digest(""))},
		{listItem(textItem(patterned(600)), textItem(patterned(300))), textItem(impl.Digest(""))},
	} {
		if got := impl.TrieRef(form.x); !wordedSame(got, form.want) {
			t.Errorf("TrieRef(%s) = %s, want %s", itemTold(form.x), itemTold(got), itemTold(form.want))
		}
		checkTrieRef(t, form.x)
	}
	for _, x := range append(manyItems(), wrongItems()...) {
		checkTrieRef(t, x)
	}
	for total := range 70 {
		checkTrieRef(t, listItem(kidsOf(total)...))
		checkTrieRef(t, textItem(patterned(total)))
		checkTrieRef(t, listItem(listItem(kidsOf(total)...), textItem("")))
	}
	for total := 880; total < 910; total++ {
		checkTrieRef(t, listItem(kidsOf(total)...))
	}
	for _, lists := range []int{1, 2, 5} {
		if x := impl.TrieRef(ring(lists, "a")); !wordedSame(x, textItem(impl.Digest(""))) {
			t.Errorf("TrieRef of an item that stands in itself = %s", itemTold(x))
		}
	}
}

// trieLeaf is a leaf with the halves that figures tell.
func trieLeaf(figures string, value string) impl.Item {
	return listItem(textItem(wordedPrefix(halvesBy(figures), true)), textItem(value))
}

// trieStem goes behind the halves that figures tell.
func trieStem(figures string, behind impl.Item) impl.Item {
	return listItem(textItem(wordedPrefix(halvesBy(figures), false)), behind)
}

func behindDigest(x impl.Item) impl.Item {
	return textItem(impl.Digest(wordedItemText(x)))
}

// trieTexts are the texts of items, and the digest of the first one.
func trieTexts(items ...impl.Item) (string, []string) {
	texts := []string{}
	for _, x := range items {
		texts = append(texts, wordedItemText(x))
	}
	return impl.Digest(texts[0]), texts
}

// On one way some items stand in their parents, and others behind a Digest.
func TestBothKindsOnOneWay(t *testing.T) {
	list := pairsBy([]int{1}, "00000000", "00000001", "10000000", "10000010", "20000000", "20000001")
	list[3].Value = patterned(60)
	root := impl.TrieRoot(list)
	counts := map[int]bool{}
	for _, pair := range list {
		proof := checkProveTrie(t, list, pair.Key)
		isThere(t, root, pair.Key, proof, pair.Value)
		counts[len(proof)] = true
	}
	if len(counts) < 2 {
		t.Errorf("of these pairs all ways have as many texts: %v", counts)
	}
	checkTrie(t, list)
	inner := trieFork(map[int]impl.Item{3: trieLeaf("", "in"), 9: trieLeaf("", "out")})
	// A digest behind a List that stands in its parent, and a List in a List.
	stem := trieStem("34567", behindDigest(inner))
	fork := trieFork(map[int]impl.Item{2: stem, 5: trieStem("34", trieStem("567", behindDigest(inner)))})
	root, proof := trieTexts(trieStem("1", behindDigest(fork)), fork, inner)
	isThere(t, root, "\x12\x34\x56\x73", proof, "in")
	isThere(t, root, "\x12\x34\x56\x79", proof, "out")
	isThere(t, root, "\x15\x34\x56\x73", proof, "in")
	notThere(t, root, "\x12\x34\x56\x75", proof)
	notThere(t, root, "\x12\x34\x66\x73", proof[:2])
	notThere(t, root, "\x15\x44\x56\x73", proof[:2])
	notThere(t, root, "\x15\x35\x56\x73", proof[:2])
	notThere(t, root, "\x13\x34\x56\x73", proof[:2])
	notThere(t, root, "\x22\x34\x56\x73", proof[:1])
	noVerify(t, root, "\x12\x34\x66\x73", proof, 4)
	noVerify(t, root, "\x13\x34\x56\x73", proof, 4)
	noVerify(t, root, "\x12\x34\x56\x73", proof[:2], 3)
}

// A Value may have 32 bytes, be a digest or the text of an item: it is the Value.
func TestValuesThatLookLikeItems(t *testing.T) {
	inner := trieLeaf("", "inner")
	for _, value := range []string{
		strings.Repeat("v", 32), impl.Digest("other"), impl.Digest(wordedItemText(inner)), impl.EmptyRoot(), wordedItemText(inner), wordedItemText(trieLeaf("6b6b6b6b", "v")), "\x80", "\xc0", "\xa0" + impl.Digest("x"), strings.Repeat("\x00", 32), "\x00",
		wordedItemText(trieFork(map[int]impl.Item{1: inner})), wordedItemText(trieStem("6", behindDigest(inner))),
	} {
		for _, list := range [][]impl.Pair{{{Key: "kkkk", Value: value}}, {{Key: "kkka", Value: value}, {Key: "kkkk", Value: value}}, {{Key: "aaaa", Value: "a"}, {Key: "kkkk", Value: value}, {Key: "kkzz", Value: value}}} {
			checkTrie(t, list)
			root, proof := impl.TrieRoot(list), impl.ProveTrie(list, "kkkk")
			noVerify(t, root, "kkkk", append(slices.Clone(proof), wordedItemText(inner)), 4)
		}
	}
}

func TestSizesOfWhatIsVerified(t *testing.T) {
	list := []impl.Pair{{Key: "aaaa", Value: "one"}, {Key: "aaab", Value: "two"}, {Key: "zzzz", Value: "three"}}
	root, proof := impl.TrieRoot(list), impl.ProveTrie(list, "aaab")
	isThere(t, root, "aaab", proof, "two")
	for _, size := range []int{0, 1, 31, 33, 64, 288} {
		noVerify(t, (root + root + patterned(300))[:size], "aaab", proof, 1)
		noVerify(t, patterned(size), "aaab", proof, 1)
		noVerify(t, strings.Repeat("\x00", size), "aaab", []string{"junk"}, 1)
	}
	for _, key := range []string{"", "a", "aaa", "aaaba", "aaabaaab", "aab", "aaaa\x00", strings.Repeat("aaab", 65), "\x00aaab"} {
		noVerify(t, root, key, proof, 1)
		noVerify(t, impl.EmptyRoot(), key, []string{"\x80"}, 1)
		noVerify(t, root, key, []string{"junk"}, 1)
	}
	for _, none := range [][]string{nil, {}, make([]string, 0, 5), proof[:0]} {
		noVerify(t, root, "aaab", none, 1)
		noVerify(t, impl.EmptyRoot(), "aaab", none, 1)
	}
}

// chainedTexts are so many texts, of stems without a half, the last one of a leaf.
func chainedTexts(count int, key string, value string) (string, []string) {
	x := trieLeaf(keyFigures(key), value)
	texts := []string{wordedItemText(x)}
	for range count - 1 {
		x = trieStem("", behindDigest(x))
		texts = append([]string{wordedItemText(x)}, texts...)
	}
	return impl.Digest(texts[0]), texts
}

func TestCountsOfTexts(t *testing.T) {
	for count := 1; count <= 12; count++ {
		root, texts := chainedTexts(count, "kkkk", "v")
		isThere(t, root, "kkkk", texts, "v")
		notThere(t, root, "kkkl", texts)
		if count > 1 {
			noVerify(t, root, "kkkk", texts[:count-1], 3)
		}
		left := append(slices.Clone(texts), "left")
		if count < 12 {
			noVerify(t, root, "kkkk", left, 4)
		} else {
			noVerify(t, root, "kkkk", left, 1)
		}
	}
	for _, count := range []int{13, 14, 24, 25, 100, 256, 268} {
		root, texts := chainedTexts(count, "kkkk", "v")
		noVerify(t, root, "kkkk", texts, 1)
		noVerify(t, root, "kkkk", texts[:12], 3)
		noVerify(t, impl.EmptyRoot(), "kkkk", slices.Repeat([]string{"\x80"}, count), 1)
		noVerify(t, root, "kkkk", make([]string, count), 1)
	}
	noVerify(t, impl.EmptyRoot(), "kkkk", slices.Repeat([]string{"\x80"}, 12), 4)
}

// Texts that are no Item, though their digest is the one that is asked for.
func noItemTexts() []string {
	return []string{
		"", "\x81\x61", "\xb8\x01\x61", "\x82a", "\x80\x80", "\xc1", "\xc0\xc0", "\xf8\x00", "aa", "\xff", "\xb7",
		wordedItemText(listItem(textKids(18)...)), wordedItemText(nested(5, textItem("a"))), wordedItemText(textItem(patterned(601))), patterned(901), strings.Repeat("\x00", 70000),
		wordedItemText(trieLeaf("6b6b6b6b", patterned(601))), wordedItemText(listItem(kidsOf(898)...)), wordedItemText(trieLeaf("6b6b6b6b", "v")) + "\x00", wordedItemText(trieLeaf("6b6b6b6b", "v"))[:6],
	}
}

func TestTextsThatAreNoItems(t *testing.T) {
	good, proof := trieTexts(trieLeaf("6b6b6b6b", "v"))
	isThere(t, good, "kkkk", proof, "v")
	for _, text := range noItemTexts() {
		noVerify(t, impl.Digest(text), "kkkk", []string{text}, 2)
		noVerify(t, good, "kkkk", []string{text}, 2)
		noVerify(t, good, "kkkk", []string{text, proof[0]}, 2)
		noVerify(t, good, "kkkk", []string{proof[0], text}, 4)
		stem := wordedItemText(trieStem("6", textItem(impl.Digest(text))))
		noVerify(t, impl.Digest(stem), "kkkk", []string{stem, text}, 2)
		noVerify(t, impl.Digest(stem), "kkkk", []string{stem, text, proof[0]}, 2)
		noVerify(t, impl.Digest(stem), "kkkk", []string{stem}, 3)
		noVerify(t, impl.Digest(stem), "\x00kkk", []string{stem, text}, 4)
	}
}

// Of every text each byte counts, and each text in its place: the first and the later ones.
func TestProofsThatAreTurned(t *testing.T) {
	other := impl.ProveTrie([]impl.Pair{{Key: "aaaa", Value: "other"}}, "aaaa")
	for _, list := range keptPairs() {
		root := impl.TrieRoot(list)
		for _, key := range append(keysAbout(list)[:5], withKeys(list)...) {
			proof := impl.ProveTrie(list, key)
			for i, text := range proof {
				for place := range len(text) {
					turned := []byte(text)
					turned[place] ^= 1 << (place % 8)
					noVerify(t, root, key, withPart(proof, i, string(turned)), 2)
				}
				for _, part := range append(slices.Clone(proof[:i]), append(slices.Clone(proof[i+1:]), "", text+"\x00", text[1:], text[:len(text)-1], other[0], "\xc0")...) {
					noVerify(t, root, key, withPart(proof, i, part), 2)
				}
				noVerify(t, root, key, slices.Insert(slices.Clone(proof), i, other[0]), 2)
				noVerify(t, root, key, slices.Insert(slices.Clone(proof), i, ""), 2)
				if i > 0 {
					noVerify(t, root, key, slices.Delete(slices.Clone(proof), i-1, i), 2)
					noVerify(t, root, key, proof[:i], 3)
				}
			}
			for _, left := range []string{"", "\x80", other[0], proof[0], proof[len(proof)-1]} {
				noVerify(t, root, key, append(slices.Clone(proof), left), 4)
				noVerify(t, root, key, append(slices.Clone(proof), left, left), 4)
			}
			for place := range len(root) {
				turned := []byte(root)
				turned[place] ^= 4
				noVerify(t, string(turned), key, proof, 2)
			}
		}
	}
}

func withKeys(list []impl.Pair) []string {
	keys := []string{}
	for _, pair := range list {
		keys = append(keys, pair.Key)
	}
	return keys
}

// The promise: a proof for one key never says anything else of another one than what is so.
func TestProofsOfOtherKeys(t *testing.T) {
	for _, list := range keptPairs() {
		root := impl.TrieRoot(list)
		keys := append(withKeys(list), keysAbout(list)[:min(20, len(keysAbout(list)))]...)
		for _, key := range keys {
			proof := impl.ProveTrie(list, key)
			for _, other := range keys {
				said := checkVerify(t, root, other, proof)
				value, there := valueOf(list, other)
				if said.code == 0 && (said.value != value || said.there != there) || said.code != 0 && (said.there || said.value != "" || said.code < 2) {
					t.Errorf("of %s the proof for %x says %v of %x", pairsTold(list), key, said, other)
				}
			}
		}
	}
}

// A proof of one trie says nothing of another one's root.
func TestProofsOfOtherTries(t *testing.T) {
	all := keptPairs()
	for i, list := range all {
		for _, other := range [][]impl.Pair{all[(i+1)%len(all)], all[(i+7)%len(all)], nil} {
			if reflect.DeepEqual(withKeys(list), withKeys(other)) && impl.TrieRoot(list) == impl.TrieRoot(other) {
				continue
			}
			for _, key := range append(withKeys(list), withKeys(other)...) {
				noVerify(t, impl.TrieRoot(other), key, impl.ProveTrie(list, key), 2)
			}
		}
	}
}

// brokenItems are none of those that stand for pairs, whatever the key is.
func brokenItems() []impl.Item {
	some := textItem("a")
	list := []impl.Item{
		some, textItem("\x80"), textItem(patterned(31)), textItem(patterned(32)), textItem(patterned(33)), textItem(impl.EmptyRoot()), textItem(wordedItemText(trieLeaf("6b6b6b6b", "v"))),
		listItem(), listItem(some), listItem(textItem("\x20")), nested(2, some), listItem(textItem("\x00"), some, some), listItem(textItem("\x20\x6b\x6b\x6b\x6b"), some, textItem("")),
		listItem(listItem(), some), listItem(listItem(textItem("\x20")), some), listItem(listItem(textItem("\x00")), trieLeaf("6b6b6b6b", "v")), listItem(trieLeaf("6b6b6b6b", "v"), trieLeaf("6b6b6b6b", "v")),
	}
	for count := range 18 {
		if count != 2 && count != 17 {
			list = append(list, listItem(textKids(count)...), listItem(make([]impl.Item, count)...))
		}
	}
	for _, prefix := range []string{"", "a", "\x01", "\x0f", "\x21", "\x2f", "\x40", "\x60", "\x80", "\xff", "\x06", "\x46\x6b", "\x40\x6b", "\x26\xb6", "kkkk", "\x20" + patterned(33), "\x00" + strings.Repeat("k", 33), "\x36" + strings.Repeat("k", 32)} {
		list = append(list, listItem(textItem(prefix), some), listItem(textItem(prefix), textItem(patterned(32))), listItem(textItem(prefix), trieLeaf("6b6b6b6b", "v")))
	}
	return list
}

// brokenBehind are items behind which nothing is that stands for pairs: a Text that is no digest, or a List that is broken.
func brokenBehind() []impl.Item {
	list := []impl.Item{textItem(patterned(31)), textItem(patterned(33)), textItem(patterned(1)), textItem(patterned(64)), textItem(" "), textItem("\xa0" + patterned(32))}
	for _, x := range brokenItems() {
		if x.List && impl.ItemOk(nested(2, x)) && len(wordedItemText(x)) < 400 {
			list = append(list, x)
		}
	}
	return list
}

func TestItemsThatAreNoneOfThese(t *testing.T) {
	_, left := trieTexts(trieLeaf("", "left"))
	isBroken := func(items ...impl.Item) {
		t.Helper()
		root, texts := trieTexts(items...)
		noVerify(t, root, "kkkk", texts, 3)
		noVerify(t, root, "kkkk", append(texts, left...), 3)
		noVerify(t, root, "kkkk", append(texts, "", "junk"), 3)
	}
	for _, x := range brokenItems() {
		isBroken(x)
		isBroken(trieStem("6b", behindDigest(x)), x)
		isBroken(trieFork(map[int]impl.Item{6: behindDigest(x)}), x)
		isBroken(trieStem("6b6", behindDigest(trieFork(map[int]impl.Item{11: behindDigest(x)}))), trieFork(map[int]impl.Item{11: behindDigest(x)}), x)
		isBroken(trieStem("6b6b6b6b", behindDigest(x)), x)
	}
	// The Text of nothing is right in the first text alone, and in a List of 17.
	nothing := textItem("")
	isBroken(trieStem("6b", behindDigest(nothing)), nothing)
	isBroken(trieFork(map[int]impl.Item{6: behindDigest(nothing)}), nothing)
	isBroken(trieStem("6b", nothing))
	isBroken(trieFork(map[int]impl.Item{6: trieStem("b", nothing)}))
	for _, x := range brokenBehind() {
		isBroken(trieStem("6b", x))
		isBroken(trieStem("", x))
		isBroken(trieStem("6b6b6b6b", x))
		isBroken(trieFork(map[int]impl.Item{6: x}))
		stem := trieStem("b6b", x)
		if impl.ItemOk(listItem(stem)) {
			isBroken(trieFork(map[int]impl.Item{6: stem}))
		}
		isBroken(trieFork(map[int]impl.Item{6: behindDigest(stem)}), stem)
	}
	// What is not a leaf's Value.
	for _, x := range []impl.Item{listItem(), listItem(textItem("v")), trieLeaf("", "v"), trieFork(nil)} {
		leaf := listItem(textItem(wordedPrefix(halvesBy("6b6b6b6b"), true)), x)
		isBroken(leaf)
		isBroken(trieStem("6b", behindDigest(listItem(textItem(wordedPrefix(halvesBy("6b6b6b"), true)), x))), listItem(textItem(wordedPrefix(halvesBy("6b6b6b"), true)), x))
		isBroken(trieFork(map[int]impl.Item{6: listItem(textItem(wordedPrefix(halvesBy("b6b6b6b"), true)), x)}))
	}
}

// What is not on the way is not looked at.
func TestItemsBesideTheWay(t *testing.T) {
	for _, x := range append(brokenBehind(), textItem(patterned(32)), textItem("a"), listItem()) {
		kids := map[int]impl.Item{}
		for place := range 17 {
			kids[place] = textItem("")
		}
		kids[6], kids[5], kids[7], kids[16] = trieLeaf("b6b6b6b", "v"), x, x, textItem("beside")
		fork := trieFork(kids)
		if impl.ItemOk(fork) && len(wordedItemText(fork)) <= 900 {
			root, texts := trieTexts(fork)
			isThere(t, root, "kkkk", texts, "v")
			notThere(t, root, "jkkk", texts[:1][:1:1])
			notThere(t, root, "\x80kkk", texts)
		}
		kids[5], kids[7], kids[16] = textItem(""), textItem(""), x
		fork = trieFork(kids)
		root, texts := trieTexts(fork)
		isThere(t, root, "kkkk", texts, "v")
		notThere(t, root, "\x7fkkk", texts)
		// The halves are looked at ahead of what is behind them.
		root, texts = trieTexts(trieStem("7", x))
		notThere(t, root, "kkkk", texts)
		noVerify(t, root, "kkkk", append(texts, "left"), 4)
		root, texts = trieTexts(listItem(textItem(wordedPrefix(halvesBy("7b6b6b6b"), true)), x))
		notThere(t, root, "kkkk", texts)
		root, texts = trieTexts(listItem(textItem(wordedPrefix(halvesBy("6b6b6b6"), true)), x))
		notThere(t, root, "kkkk", texts)
	}
}

// A leaf's Text is its Value, of whatever size.
func TestValuesThatAreVerified(t *testing.T) {
	for _, value := range []string{"", "v", "\x80", patterned(31), patterned(32), patterned(33), patterned(60), patterned(61), patterned(256), patterned(600)} {
		root, texts := trieTexts(trieLeaf("6b6b6b6b", value))
		isThere(t, root, "kkkk", texts, value)
		noVerify(t, root, "kkkk", append(texts, wordedItemText(trieLeaf("", "v"))), 4)
		leaf := trieLeaf("6b6b6b", value)
		root, texts = trieTexts(trieStem("6b", behindDigest(leaf)), leaf)
		isThere(t, root, "kkkk", texts, value)
		leaf = trieLeaf("", value)
		root, texts = trieTexts(trieStem("6b6b6b6b", behindDigest(leaf)), leaf)
		isThere(t, root, "kkkk", texts, value)
	}
}

func TestWaysThatEndOnNothing(t *testing.T) {
	full := map[int]impl.Item{}
	for place := range 17 {
		full[place] = textItem(patterned(32))
	}
	for _, form := range []struct {
		items []impl.Item
		key   string
	}{
		// At a List of 17 with no halves left, though something is there.
		{[]impl.Item{trieStem("6b6b6b6b", behindDigest(trieFork(full))), trieFork(full)}, "kkkk"},
		{[]impl.Item{trieStem("6b6b6b6b", trieFork(map[int]impl.Item{0: trieLeaf("", "a"), 11: trieLeaf("", "b"), 16: textItem("v")}))}, "kkkk"},
		{[]impl.Item{trieStem("6b6b6b6", trieFork(map[int]impl.Item{11: trieFork(map[int]impl.Item{11: trieLeaf("", "a")})}))}, "kkkk"},
		// At an empty half.
		{[]impl.Item{trieFork(nil)}, "kkkk"},
		{[]impl.Item{trieFork(map[int]impl.Item{5: trieLeaf("b6b6b6b", "a"), 7: trieLeaf("b6b6b6b", "b")})}, "kkkk"},
		{[]impl.Item{trieFork(map[int]impl.Item{16: trieLeaf("b6b6b6b", "a")})}, "\x00kkk"},
		{[]impl.Item{trieFork(map[int]impl.Item{14: trieLeaf("f6b6b6b", "a"), 16: trieLeaf("f6b6b6b", "b")})}, "\xffkkk"},
		{[]impl.Item{trieStem("6b6b6b6", trieFork(map[int]impl.Item{10: trieLeaf("", "a"), 12: trieLeaf("", "b")}))}, "kkkk"},
		// At a leaf with other halves, with fewer, and with more.
		{[]impl.Item{trieLeaf("6b6b6b6c", "v")}, "kkkk"},
		{[]impl.Item{trieLeaf("7b6b6b6b", "v")}, "kkkk"},
		{[]impl.Item{trieLeaf("", "v")}, "kkkk"},
		{[]impl.Item{trieLeaf("6b6b6b6", "v")}, "kkkk"},
		{[]impl.Item{trieLeaf("6b", "v")}, "kkkk"},
		{[]impl.Item{trieLeaf("6b6b6b6b6", "v")}, "kkkk"},
		{[]impl.Item{trieLeaf("6b6b6b6b0", "v")}, "kkkk"},
		{[]impl.Item{trieLeaf("6b6b6b6b"+strings.Repeat("0", 56), "v")}, "kkkk"},
		{[]impl.Item{trieStem("6b6b6b6b", trieLeaf("0", "v"))}, "kkkk"},
		{[]impl.Item{trieStem("6b6b6b6b", behindDigest(trieLeaf("6b6b6b6b", "v"))), trieLeaf("6b6b6b6b", "v")}, "kkkk"},
		// At halves in common that the key does not have.
		{[]impl.Item{trieStem("7", trieLeaf("b6b6b6b", "v"))}, "kkkk"},
		{[]impl.Item{trieStem("6c", trieLeaf("6b6b6b", "v"))}, "kkkk"},
		{[]impl.Item{trieStem("6b6b6b6a", trieLeaf("", "v"))}, "kkkk"},
		{[]impl.Item{trieStem("6b6b6b6b6", trieLeaf("", "v"))}, "kkkk"},
		{[]impl.Item{trieStem("6b6b6b6b", trieStem("0", trieLeaf("", "v")))}, "kkkk"},
		{[]impl.Item{trieStem("6b", behindDigest(trieStem("6c", textItem(patterned(32))))), trieStem("6c", textItem(patterned(32)))}, "kkkk"},
	} {
		root, texts := trieTexts(form.items...)
		notThere(t, root, form.key, texts)
		noVerify(t, root, form.key, append(slices.Clone(texts), "left"), 4)
		noVerify(t, root, form.key, append(slices.Clone(texts), texts[0]), 4)
		if len(texts) > 1 {
			noVerify(t, root, form.key, texts[:1], 3)
		}
	}
}

// Each half leads to its own Kid.
func TestEachHalfOfAFork(t *testing.T) {
	kids := map[int]impl.Item{}
	for half := range 16 {
		kids[half] = trieLeaf("", string([]byte{byte('a' + half)}))
	}
	fork := trieFork(kids)
	root, texts := trieTexts(trieStem("6b6b6b6", behindDigest(fork)), fork)
	for half := range 16 {
		key := "kkk" + string([]byte{byte(0x60 + half)})
		isThere(t, root, key, texts, string([]byte{byte('a' + half)}))
		kids[half] = textItem("")
		fewer := trieFork(kids)
		kids[half] = fork.Kids[half]
		without, some := trieTexts(trieStem("6b6b6b6", behindDigest(fewer)), fewer)
		for other := range 16 {
			key := "kkk" + string([]byte{byte(0x60 + other)})
			if other == half {
				notThere(t, without, key, some)
			} else {
				isThere(t, without, key, some, string([]byte{byte('a' + other)}))
			}
		}
	}
}

func TestTheTextOfNothing(t *testing.T) {
	root := impl.EmptyRoot()
	if root != impl.Digest("\x80") || root != impl.TrieRoot(nil) || root != impl.TrieRoot([]impl.Pair{}) || root != wordedTrieRoot(nil) {
		t.Errorf("EmptyRoot is %x, TrieRoot of none %x", root, impl.TrieRoot(nil))
	}
	for _, key := range keysAbout(nil) {
		notThere(t, root, key, []string{"\x80"})
		for _, left := range []string{"", "\x80", "left", wordedItemText(trieLeaf(keyFigures(key), "v"))} {
			noVerify(t, root, key, []string{"\x80", left}, 4)
			noVerify(t, root, key, []string{left + "x", "\x80"}, 2)
		}
		for _, other := range []string{"", "\xc0", "\x81\x80", "\x80\x80", "\x00"} {
			noVerify(t, root, key, []string{other}, 2)
		}
		for _, none := range [][]impl.Pair{nil, {}, make([]impl.Pair, 0, 3), keptPairs()[8][:0]} {
			if proof := checkProveTrie(t, none, key); !slices.Equal(proof, []string{"\x80"}) {
				t.Errorf("ProveTrie of none for %x = %s", key, proofTold(proof))
			}
			checkTrie(t, none)
		}
	}
}

// Where several codes would hold, the first one counts; from 2 on the first that is met on the way.
func TestWhichCodeComesFirst(t *testing.T) {
	leaf := trieLeaf("6b6b6b", "v")
	stem := trieStem("6b", behindDigest(leaf))
	broken := listItem(textItem("a"))
	root, texts := trieTexts(stem, leaf)
	short := root[:31]
	noVerify(t, short, "kkkk", []string{"junk"}, 1)
	noVerify(t, root, "kkk", texts[:1], 1)
	noVerify(t, root, "kkk", append(slices.Clone(texts), "left"), 1)
	noVerify(t, short, "kkk", nil, 1)
	noVerify(t, root, "kkkk", slices.Repeat([]string{"junk"}, 13), 1)
	// The first text is of another digest, and broken, too.
	noVerify(t, root, "kkkk", []string{wordedItemText(broken), "left"}, 2)
	// The second one is of another digest, behind it are texts left.
	noVerify(t, root, "kkkk", []string{texts[0], wordedItemText(broken), "left"}, 2)
	noVerify(t, root, "kkkk", []string{texts[0], texts[0], texts[1]}, 2)
	// The first is broken, the second one of another digest.
	first, some := trieTexts(trieStem("6b", broken))
	noVerify(t, first, "kkkk", append(some, "junk"), 3)
	noVerify(t, first, "kkkk", some, 3)
	// The way ends in the first text, the second one is no Item.
	noVerify(t, root, "zzzz", []string{texts[0], "junk"}, 4)
	noVerify(t, root, "zzzz", texts, 4)
	noVerify(t, root, "kkkz", texts, 0)
	noVerify(t, root, "kkkk", append(slices.Clone(texts), texts[1]), 4)
	// A text behind the missing one does not stand for it.
	fork := trieFork(map[int]impl.Item{6: behindDigest(stem)})
	whole, three := trieTexts(fork, trieStem("b", behindDigest(leaf)), leaf)
	noVerify(t, whole, "kkkk", three, 2)
	fork = trieFork(map[int]impl.Item{6: behindDigest(trieStem("b", behindDigest(leaf)))})
	whole, three = trieTexts(fork, trieStem("b", behindDigest(leaf)), leaf)
	isThere(t, whole, "kkkk", three, "v")
	noVerify(t, whole, "kkkk", []string{three[0], three[2]}, 2)
	noVerify(t, whole, "kkkk", []string{three[0], three[2], three[1]}, 2)
	noVerify(t, whole, "kkkk", three[1:], 2)
	noVerify(t, whole, "kkkk", three[:2], 3)
	noVerify(t, whole, "kkkk", three[:1], 3)
}

// roomyPairs has pairs in the room behind the list.
func roomyPairs(list []impl.Pair) []impl.Pair {
	room := append(slices.Clone(list), impl.Pair{Key: "room", Value: "r"}, impl.Pair{Key: "zzzz", Value: "more room"})
	return room[:len(list)]
}

func TestTriesStayAsTheyWere(t *testing.T) {
	wrong := [][]impl.Pair{{{Key: "aaa", Value: "v"}}, {{Key: "aaab", Value: "v"}, {Key: "aaaa", Value: "v"}}, {{Key: "aaaa", Value: ""}}}
	for _, plain := range append(keptPairs(), wrong...) {
		list := roomyPairs(plain)
		was := slices.Clone(list[:len(list)+2])
		for at := -1; at <= 9; at++ {
			checkTrieItem(t, list, at)
		}
		if impl.PairsOk(list) != wordedPairsOk(plain) || impl.TrieRoot(list) != wordedTrieRoot(plain) {
			t.Errorf("with room behind them %s are others", pairsTold(plain))
		}
		root := impl.TrieRoot(list)
		for _, key := range append(keysAbout(plain)[:5], withKeys(plain)...) {
			proof := roomyTexts(checkProveTrie(t, list, key))
			kept := slices.Clone(proof)
			checkVerify(t, root, key, proof)
			isAsItWas(t, "VerifyTrie", proof, kept)
			if len(proof) > 1 {
				short := roomyTexts(proof[:len(proof)-1])
				noVerify(t, root, key, short, 3)
				isAsItWas(t, "VerifyTrie", short, kept[:len(kept)-1])
			}
		}
		if !slices.Equal(list[:len(list)+2], was) {
			t.Errorf("%s is %s", pairsTold(was), pairsTold(list[:len(list)+2]))
		}
	}
	for _, plain := range append(manyItems(), wrongItems()...) {
		x := roomyItem(plain)
		before := wholeItem(x)
		checkTrieRef(t, x)
		if !reflect.DeepEqual(wholeItem(x), before) {
			t.Errorf("TrieRef left %s of %s", itemTold(wholeItem(x)), itemTold(before))
		}
	}
}

// A list may be a piece of another one, and so may texts be.
func TestPiecesOfTries(t *testing.T) {
	for _, whole := range keptPairs() {
		was := slices.Clone(whole)
		for from := range whole {
			for to := from; to <= len(whole); to++ {
				checkTrieItem(t, whole[from:to], 0)
				if impl.TrieRoot(whole[from:to]) != wordedTrieRoot(was[from:to]) {
					t.Errorf("TrieRoot of %s is %x", pairsTold(was[from:to]), impl.TrieRoot(whole[from:to]))
				}
			}
			proof := append(checkProveTrie(t, whole, whole[from].Key), "behind")
			isThere(t, impl.TrieRoot(whole), whole[from].Key, proof[:len(proof)-1], whole[from].Value)
		}
		if !slices.Equal(whole, was) {
			t.Errorf("%s is %s", pairsTold(was), pairsTold(whole))
		}
	}
}

// trieAnswers are the items and texts that the functions answer of a list.
func trieAnswers(list []impl.Pair) ([]impl.Item, []string) {
	items, texts := []impl.Item{}, []string{impl.EmptyRoot(), impl.TrieRoot(list)}
	for at := range 9 {
		x := impl.TrieItem(list, at)
		items = append(items, x, impl.TrieRef(x))
	}
	for _, pair := range list {
		proof := impl.ProveTrie(list, pair.Key)
		value, _, _ := impl.VerifyTrie(texts[1], pair.Key, proof)
		texts = append(append(texts, proof...), value)
	}
	texts = append(texts, impl.ProveTrie(list, "none")...)
	return items, texts
}

func TestTriesAreNewMemory(t *testing.T) {
	for _, list := range keptPairs() {
		items, texts := trieAnswers(list)
		again, more := trieAnswers(list)
		all := []*impl.Item{}
		for _, answers := range [][]impl.Item{items, again} {
			for i := range answers {
				all = append(all, placesIn(&answers[i])...)
			}
		}
		texts = append(texts, more...)
		for _, place := range all {
			texts = append(texts, place.Text)
		}
		for _, pair := range list {
			texts = append(texts, pair.Key, pair.Value)
		}
		noneShare(t, texts)
		for i, place := range all {
			for _, other := range all[:i] {
				if listsShare(place.Kids, other.Kids) {
					t.Errorf("of %s two Lists share memory", pairsTold(list))
				}
			}
		}
	}
}

func standsAt(text string) uintptr {
	return uintptr(unsafe.Pointer(unsafe.StringData(text)))
}

// noneShare goes through texts by where they stand.
func noneShare(t *testing.T, texts []string) {
	t.Helper()
	texts = slices.DeleteFunc(slices.Clone(texts), func(text string) bool { return text == "" })
	slices.SortFunc(texts, func(a, b string) int {
		return int(standsAt(a)) - int(standsAt(b))
	})
	for i := 1; i < len(texts); i++ {
		if shares(texts[i-1], texts[i]) {
			t.Errorf("%.40q and %.40q share memory", texts[i-1], texts[i])
		}
	}
}

func TestProofsAreNewMemory(t *testing.T) {
	for _, list := range keptPairs() {
		root := impl.TrieRoot(list)
		for _, key := range withKeys(list) {
			first, second := impl.ProveTrie(list, key), impl.ProveTrie(list, key)
			value, _, _ := impl.VerifyTrie(root, key, first)
			again, _, _ := impl.VerifyTrie(root, key, first)
			if listsShare(first, second) {
				t.Errorf("two proofs for %x share memory", key)
			}
			noneShare(t, slices.Concat(first, second, []string{value, again, root, key}))
		}
	}
	// The Text that is the Value may be one that Go keeps for all.
	for _, value := range []string{"", "v", "\x80", patterned(32), patterned(60), patterned(600)} {
		leaf := trieLeaf("6b6b6b6b", value)
		root, texts := trieTexts(leaf)
		first, _, _ := impl.VerifyTrie(root, "kkkk", texts)
		second, _, _ := impl.VerifyTrie(root, "kkkk", texts)
		noneShare(t, append(texts, first, second, root))
	}
	for _, x := range manyItems() {
		first, second := impl.TrieRef(x), impl.TrieRef(x)
		texts := []string{}
		places := slices.Concat(placesIn(&first), placesIn(&second))
		for _, place := range places {
			texts = append(texts, place.Text)
		}
		for _, place := range placesIn(&x) {
			for _, text := range texts {
				if shares(place.Text, text) {
					t.Errorf("TrieRef(%s) shares a text with it", itemTold(x))
				}
			}
			for _, other := range places {
				if listsShare(place.Kids, other.Kids) {
					t.Errorf("TrieRef(%s) shares Kids with it", itemTold(x))
				}
			}
		}
		noneShare(t, texts)
		for i, place := range places {
			for _, other := range places[:i] {
				if listsShare(place.Kids, other.Kids) {
					t.Errorf("two Lists of TrieRef(%s) share memory", itemTold(x))
				}
			}
		}
	}
}

// What is done to an answer, or what was asked between, is not in the next one.
func TestTriesAreAnsweredAlikeAgain(t *testing.T) {
	for _, list := range keptPairs() {
		items, texts := trieAnswers(list)
		kept := fmt.Sprint(items, texts)
		for _, x := range items {
			spoilItem(x)
		}
		proof := impl.ProveTrie(list, "none")
		for i := range proof {
			proof[i] = "spoilt"
		}
		handed := slices.Clone(list)
		trieAnswers(handed)
		for i := range handed {
			handed[i] = impl.Pair{Key: "zzzz", Value: "spoilt"}
		}
		noPairs(t, []impl.Pair{{Key: "b", Value: "b"}})
		noVerify(t, impl.EmptyRoot(), "none", []string{"junk"}, 2)
		trieAnswers(pairsBy([]int{5}, "00000000", "61616161"))
		again, more := trieAnswers(list)
		if got := fmt.Sprint(again, more); got != kept {
			t.Errorf("of %s it is %s, then %s", pairsTold(list), kept, got)
		}
	}
}
