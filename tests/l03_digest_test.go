package tests

import (
	"crypto/sha3"
	"math"
	"strings"
	"testing"

	"loop.example/g00321/impl"
)

// bitAt is the bit z of the word x + 5 y of a state.
func bitAt(state []byte, x, y, z int) byte {
	return state[8*(x+5*y)+z/8] >> (z % 8) & 1
}

func turnBit(state []byte, x, y, z int, bit byte) {
	state[8*(x+5*y)+z/8] ^= bit << (z % 8)
}

// eachBit makes a state bit by bit of a rule.
func eachBit(rule func(x, y, z int) byte) []byte {
	state := make([]byte, impl.StateSize)
	for y := range 5 {
		for x := range 5 {
			for z := range 64 {
				turnBit(state, x, y, z, rule(x, y, z))
			}
		}
	}
	return state
}

func columnBit(state []byte, x, z int) byte {
	bit := byte(0)
	for y := range 5 {
		bit ^= bitAt(state, x, y, z)
	}
	return bit
}

// iotaBits are the bits that the standard's shift register tells for a round, at the places 0, 1, 3, 7 .. 63.
func iotaBits(round int) [7]byte {
	var out [7]byte
	register := 1
	for step := range 7*round + 7 {
		if step >= 7*round {
			out[step-7*round] = byte(register & 1)
		}
		register *= 2
		if register > 255 {
			register ^= 0x171
		}
	}
	return out
}

// bitRound is a round in the words of the standard (FIPS 202), step by step and bit by bit.
func bitRound(text string, round int) string {
	old := []byte(text)
	theta := eachBit(func(x, y, z int) byte {
		return bitAt(old, x, y, z) ^ columnBit(old, (x+4)%5, z) ^ columnBit(old, (x+1)%5, (z+63)%64)
	})
	turns := [5][5]int{{0, 1, 190, 28, 91}, {36, 300, 6, 55, 276}, {3, 10, 171, 153, 231}, {105, 45, 15, 21, 136}, {210, 66, 253, 120, 78}}
	rho := eachBit(func(x, y, z int) byte { return bitAt(theta, x, y, (z+320-turns[y][x])%64) })
	pi := eachBit(func(x, y, z int) byte { return bitAt(rho, (x+3*y)%5, x, z) })
	chi := eachBit(func(x, y, z int) byte {
		return bitAt(pi, x, y, z) ^ (bitAt(pi, (x+1)%5, y, z)^1)*bitAt(pi, (x+2)%5, y, z)
	})
	for i, bit := range iotaBits(round) {
		turnBit(chi, 0, 0, 1<<i-1, bit)
	}
	return string(chi)
}

func bitRounds(state string) string {
	for round := range 24 {
		state = bitRound(state, round)
	}
	return state
}

// wordedPad is KeccakPad in the document's words, for any byte that comes first.
func wordedPad(text string, first byte) string {
	out := append([]byte(text), first)
	for len(out)%136 != 0 {
		out = append(out, 0)
	}
	out[len(out)-1] |= 128
	return string(out)
}

// wordedDigest puts a padded text block by block to a state and turns it by the rounds that are handed in.
func wordedDigest(padded string, rounds func(string) string) string {
	state := make([]byte, 200)
	for ; padded != ""; padded = padded[136:] {
		for i := range 136 {
			state[i] ^= padded[i]
		}
		state = []byte(rounds(string(state)))
	}
	return string(state[:32])
}

// evenState has bits of which each column holds none or two, so theta finds nothing in it.
func evenState() string {
	state := []byte(strings.Repeat(patterned(40), 2))
	return string(append(state, make([]byte, 120)...))
}

func manyStates() []string {
	return []string{
		strings.Repeat("\x00", 200), strings.Repeat("\xff", 200), strings.Repeat("\x55", 200), evenState(),
		strings.Repeat("\x00", 199) + "\x80", "\x01" + strings.Repeat("\x00", 199), patterned(200), patterned(400)[200:], patterned(900)[700:],
	}
}

// edgeSizes are the sizes at which a text is about to fill its blocks, or just did.
func edgeSizes() []int {
	return []int{0, 1, 2, 134, 135, 136, 137, 270, 271, 272, 273, 407, 408, 409}
}

func otherSizes(right int) []int {
	return []int{0, 1, right / 2, right - 8, right - 1, right + 1, right + 8, 2 * right, 1000, impl.MaxText + 1}
}

func asItIs(t *testing.T, call, given, got string) {
	t.Helper()
	if got != given {
		t.Errorf("%s of %d bytes (%.20q) = %d bytes (%.20q), want it as it is", call, len(given), given, len(got), got)
	}
	if shares(got, given) {
		t.Errorf("%s of %d bytes answers memory of its argument", call, len(given))
	}
}

func TestDigestSizes(t *testing.T) {
	if impl.StateSize != 200 || impl.RateSize != 136 || impl.DigestSize != 32 {
		t.Errorf("sizes are %d, %d, %d", impl.StateSize, impl.RateSize, impl.DigestSize)
	}
}

// Values of Keccak-256 as they are known elsewhere.
func TestDigestHexOfKnownTexts(t *testing.T) {
	for _, form := range []struct{ text, want string }{
		{"", "c5d2460186f7233c927e7db2dcc703c0e500b653ca82273b7bfad8045d85a470"},
		{"abc", "4e03657aea45a94fc7d47ba826c8d667c0d1e6e33a64a036ec44f58fa12d6c45"},
		{"hello", "1c8aff950685c2ed4bc3174f3472287b56d9517b9c948127319a09a7a36deac8"},
		{"The quick brown fox jumps over the lazy dog", "4d741b6f1eb29cb2a9b9911c82f56fa8d73b04959d3d9d222895df6c0b28aa15"},
		{"The quick brown fox jumps over the lazy dog.", "578951e24efd62a3d63a86f7cd19aaa53c898fe287d2552133220370240b572d"},
		{"Transfer(address,address,uint256)", "ddf252ad1be2c89b69c2b068fc378daa952ba7f163c4a11628f55a4df523b3ef"},
		{"\x00", "bc36789e7a1e281436464229828f817d6612f7b477d66591ff96a9e064bcc98a"},
		{"\xff", "8b1a944cf13a9a1c08facb2c9e98623ef3254d2ddb48113885c3e8e97fec8db9"},
		{"\x80", "56e81f171bcc55a6ff8345e692c0f86e5b48e01b996cadc001622fb5e363b421"},
		{"\xc0", "1dcc4de8dec75d7aab85b567b6ccd41ad312451b948a7413f0a142fd40d49347"},
		{strings.Repeat("\x00", 32), "290decd9548b62a8d60345a988386fc84ba6bc95484008f6362f93160ef3e563"},
		{strings.Repeat("\x00", 64), "ad3228b676f7d3cd4284a5443f17f1962b36e491b30a40b2405849e597ba5fb5"},
	} {
		if got := impl.DigestHex(form.text); got != form.want {
			t.Errorf("DigestHex(%q) = %s, want %s", form.text, got, form.want)
		}
	}
}

// Values of Keccak-256 that another library (golang.org/x/crypto/sha3) told, at the edges of blocks.
func TestDigestHexAtTheEdges(t *testing.T) {
	for _, form := range []struct {
		size int
		want string
	}{
		{134, "ea2b9479fbb270783672724acce613d01da78f8631701da772d973c9c1fb809d"},
		{135, "4053321b13804799827bc00797d8946df881b3ccb0ef384233bfad3c306b77df"},
		{136, "407c516c44f6b660d3c223452ee012eb5cff541102e4e2383a3672641fa8fd37"},
		{137, "753450a1add643d9f84d07e632da301fd83f58587767d9620ebdb021fbf6c4d9"},
		{271, "5b9230a71b2de16ffd5781a271e217e898fbfe69e613660375a99a7fd8487443"},
		{272, "20c0c5cf71d0e8d3ffb0fc404dc167f18f268b7b11283e18aadbc467bd9d2789"},
		{273, "c9f3622dcc93e33a9bda8b7cbe8b944e8b93abee866a282b0f9df95f41198228"},
		{20000, "48916a261153d37d59aa6dfa8f5de5c95c98e49213dd0c375b7e742173132602"},
		{20001, "31d80dcca82cccd22b959b9c656af51517fd88b8d731b00a61623664bd0fa71a"},
	} {
		if got := impl.DigestHex(patterned(form.size)); got != form.want {
			t.Errorf("DigestHex of %d bytes = %s, want %s", form.size, got, form.want)
		}
	}
}

func TestRotatedForms(t *testing.T) {
	for _, form := range []struct {
		word string
		n    int
		want string
	}{
		{"\x01\x00\x00\x00\x00\x00\x00\x80", 0, "\x01\x00\x00\x00\x00\x00\x00\x80"},
		{"\x01\x00\x00\x00\x00\x00\x00\x80", 1, "\x03\x00\x00\x00\x00\x00\x00\x00"},
		{"\x01\x00\x00\x00\x00\x00\x00\x80", 63, "\x00\x00\x00\x00\x00\x00\x00\xc0"},
		{"\x01\x00\x00\x00\x00\x00\x00\x80", 64, "\x01\x00\x00\x00\x00\x00\x00\x80"},
		{"\x01\x00\x00\x00\x00\x00\x00\x80", 65, "\x03\x00\x00\x00\x00\x00\x00\x00"},
		{"\x80\x00\x00\x00\x00\x00\x00\x00", 1, "\x00\x01\x00\x00\x00\x00\x00\x00"},
		{"abcdefgh", 8, "habcdefg"}, {"abcdefgh", 16, "ghabcdef"}, {"abcdefgh", 56, "bcdefgha"}, {"abcdefgh", 128, "abcdefgh"},
		{"\x12\x34\x56\x78\x9a\xbc\xde\xf0", 4, "\x2f\x41\x63\x85\xa7\xc9\xeb\x0d"},
		{"\x01\x00\x00\x00\x00\x00\x00\x00", math.MaxInt, "\x00\x00\x00\x00\x00\x00\x00\x80"},
		{"\x00\x00\x00\x00\x00\x00\x00\x00", 5, "\x00\x00\x00\x00\x00\x00\x00\x00"},
		{"\xff\xff\xff\xff\xff\xff\xff\xff", 5, "\xff\xff\xff\xff\xff\xff\xff\xff"},
	} {
		if got := impl.Rotated(form.word, form.n); got != form.want {
			t.Errorf("Rotated(%q, %d) = %q, want %q", form.word, form.n, got, form.want)
		}
	}
}

// One bit alone is at its place and n further, modulo 64.
func TestRotatedMovesEachBit(t *testing.T) {
	for place := range 64 {
		for n := range 200 {
			word, want := make([]byte, 8), make([]byte, 8)
			word[place/8] = 1 << (place % 8)
			want[(place+n)%64/8] = 1 << ((place + n) % 8)
			if got := impl.Rotated(string(word), n); got != string(want) {
				t.Errorf("Rotated(%q, %d) = %q, want %q", word, n, got, want)
			}
		}
	}
}

func TestRotatedThereAndBack(t *testing.T) {
	for at := range 50 {
		word := patterned(500)[at*9 : at*9+8]
		for n := range 65 {
			if got := impl.Rotated(impl.Rotated(word, n), 64-n); got != word {
				t.Errorf("Rotated(%q) by %d and %d = %q", word, n, 64-n, got)
			}
			for _, more := range []int{64, 640, math.MaxInt - 127} {
				if got, want := impl.Rotated(word, n+more), impl.Rotated(word, n); got != want {
					t.Errorf("Rotated(%q, %d) = %q, but by %d it is %q", word, n+more, got, n, want)
				}
			}
		}
	}
}

func TestRotatedOfWrongInputs(t *testing.T) {
	for _, size := range append(otherSizes(8), 3, 5, 6, 10, 12) {
		for _, n := range []int{0, 1, 8, 63, 64, -1, math.MaxInt, math.MinInt} {
			asItIs(t, "Rotated", patterned(size), impl.Rotated(patterned(size), n))
		}
	}
	for _, n := range []int{-1, -2, -63, -64, -65, math.MinInt + 1, math.MinInt} {
		asItIs(t, "Rotated by less than 0", "abcdefgh", impl.Rotated("abcdefgh", n))
	}
}

func TestKeccakRoundByTheBits(t *testing.T) {
	for _, state := range manyStates() {
		for round := range 24 {
			if got, want := impl.KeccakRound(state, round), bitRound(state, round); got != want {
				t.Errorf("KeccakRound(%.20q .., %d) = %q, want %q", state, round, got, want)
			}
		}
	}
}

func TestKeccakRoundOfEachBit(t *testing.T) {
	for place := range 1600 {
		state := make([]byte, 200)
		state[place/8] = 1 << (place % 8)
		for _, round := range []int{0, 23} {
			if got, want := impl.KeccakRound(string(state), round), bitRound(string(state), round); got != want {
				t.Errorf("KeccakRound of the bit %d alone, round %d = %q, want %q", place, round, got, want)
			}
		}
	}
}

// Of a state of noughts a round leaves its constant alone; these are the standard's.
func TestKeccakRoundConstants(t *testing.T) {
	for _, form := range []struct {
		round int
		want  string
	}{
		{0, "\x01\x00\x00\x00\x00\x00\x00\x00"}, {1, "\x82\x80\x00\x00\x00\x00\x00\x00"}, {2, "\x8a\x80\x00\x00\x00\x00\x00\x80"},
		{3, "\x00\x80\x00\x80\x00\x00\x00\x80"}, {22, "\x01\x00\x00\x80\x00\x00\x00\x00"}, {23, "\x08\x80\x00\x80\x00\x00\x00\x80"},
	} {
		want := form.want + strings.Repeat("\x00", 192)
		if got := impl.KeccakRound(strings.Repeat("\x00", 200), form.round); got != want {
			t.Errorf("KeccakRound of noughts, round %d = %q, want %q", form.round, got, want)
		}
	}
}

func TestKeccakRoundOfWrongInputs(t *testing.T) {
	for _, size := range append(otherSizes(200), 136, 32) {
		for _, round := range []int{0, 12, 23, -1, 24} {
			asItIs(t, "KeccakRound", patterned(size), impl.KeccakRound(patterned(size), round))
		}
	}
	for _, state := range manyStates() {
		for _, round := range []int{-1, -24, 24, 25, 255, 256, math.MinInt, math.MaxInt} {
			asItIs(t, "KeccakRound of no such round", state, impl.KeccakRound(state, round))
		}
	}
}

func TestKeccakFIsAllRounds(t *testing.T) {
	for _, state := range manyStates() {
		behind := state
		for round := range 24 {
			behind = impl.KeccakRound(behind, round)
		}
		if got := impl.KeccakF(state); got != behind || got != bitRounds(state) {
			t.Errorf("KeccakF(%.20q ..) = %q, but the rounds make %q", state, got, behind)
		}
	}
}

// The first words of Keccak-f[1600] of noughts, and of what that made, as they are known elsewhere.
func TestKeccakFOfKnownStates(t *testing.T) {
	once := impl.KeccakF(strings.Repeat("\x00", 200))
	if want := "\xe7\xdd\xe1\x40\x79\x8f\x25\xf1\x8a\x47\xc0\x33\xf9\xcc\xd5\x84"; !strings.HasPrefix(once, want) {
		t.Errorf("KeccakF of noughts begins %.16q, want %q", once, want)
	}
	if want := "\x3c\xcb\x6e\xf9\x4d\x95\x5c\x2d"; !strings.HasPrefix(impl.KeccakF(once), want) {
		t.Errorf("KeccakF of KeccakF of noughts begins %.8q, want %q", impl.KeccakF(once), want)
	}
}

// SHA3-256 goes by the same KeccakF, but for the byte 6 where KeccakPad has 1; the library of Go knows it.
func TestKeccakFMakesSha3(t *testing.T) {
	for size := range 300 {
		want := sha3.Sum256([]byte(patterned(size)))
		if got := wordedDigest(wordedPad(patterned(size), 6), impl.KeccakF); got != string(want[:]) {
			t.Errorf("by KeccakF SHA3-256 of %d bytes is %q, want %q", size, got, want)
		}
		if impl.Digest(patterned(size)) == string(want[:]) {
			t.Errorf("Digest of %d bytes is SHA3-256, not Keccak-256", size)
		}
	}
}

func TestKeccakFOfWrongInputs(t *testing.T) {
	for _, size := range append(otherSizes(200), 136, 32) {
		asItIs(t, "KeccakF", patterned(size), impl.KeccakF(patterned(size)))
	}
}

func TestKeccakPad(t *testing.T) {
	for size := range 420 {
		for _, text := range []string{patterned(size), strings.Repeat("\x00", size), strings.Repeat("\xff", size)} {
			if got, want := impl.KeccakPad(text), wordedPad(text, 1); got != want {
				t.Errorf("KeccakPad of %d bytes (%.20q) has %d bytes, want %d, or they differ", size, text, len(got), len(want))
			}
		}
	}
}

func TestKeccakPadAtTheEdges(t *testing.T) {
	for _, form := range []struct {
		size int
		more string
	}{
		{0, "\x01" + strings.Repeat("\x00", 134) + "\x80"}, {1, "\x01" + strings.Repeat("\x00", 133) + "\x80"},
		{133, "\x01\x00\x80"}, {134, "\x01\x80"}, {135, "\x81"}, {136, "\x01" + strings.Repeat("\x00", 134) + "\x80"},
		{137, "\x01" + strings.Repeat("\x00", 133) + "\x80"}, {270, "\x01\x80"}, {271, "\x81"},
		{272, "\x01" + strings.Repeat("\x00", 134) + "\x80"}, {273, "\x01" + strings.Repeat("\x00", 133) + "\x80"},
	} {
		text := patterned(form.size)
		if got := impl.KeccakPad(text); got != text+form.more {
			t.Errorf("KeccakPad of %d bytes = %q, want %q behind them", form.size, got, form.more)
		}
	}
}

func TestDigestBlockByBlock(t *testing.T) {
	for size := range 420 {
		text := patterned(size)
		got := impl.Digest(text)
		if want := wordedDigest(impl.KeccakPad(text), impl.KeccakF); got != want || len(got) != impl.DigestSize {
			t.Errorf("Digest of %d bytes = %q, want %q", size, got, want)
		}
	}
}

func TestDigestByTheBits(t *testing.T) {
	for _, size := range edgeSizes() {
		for _, text := range []string{patterned(size), strings.Repeat("\x00", size), strings.Repeat("\xff", size)} {
			if got, want := impl.Digest(text), wordedDigest(wordedPad(text, 1), bitRounds); got != want {
				t.Errorf("Digest of %d bytes (%.20q) = %q, want %q", size, text, got, want)
			}
		}
	}
}

// A text that ends as a pad does is another text than the one it pads.
func TestDigestOfPaddedTexts(t *testing.T) {
	for _, size := range edgeSizes() {
		text := patterned(size)
		for _, other := range []string{text + "\x00", text + "\x01", text + "\x80", text + "\x81", impl.KeccakPad(text)} {
			if impl.Digest(other) == impl.Digest(text) {
				t.Errorf("Digest of %d bytes and of %d, which begin so, is the same", size, len(other))
			}
		}
	}
}

func TestDigestHexIsHexOfDigest(t *testing.T) {
	for _, size := range append(edgeSizes(), impl.MaxText, impl.MaxText+1, 3*impl.MaxText) {
		want, ok := impl.Hex(impl.Digest(patterned(size)))
		if got := impl.DigestHex(patterned(size)); !ok || got != want || len(got) != 64 {
			t.Errorf("DigestHex of %d bytes = %s, want %s", size, got, want)
		}
	}
}

func TestDigestPair(t *testing.T) {
	for _, size := range edgeSizes() {
		whole := patterned(size)
		for at := range size + 1 {
			if got, want := impl.DigestPair(whole[:at], whole[at:]), impl.Digest(whole); got != want {
				t.Errorf("DigestPair of %d and %d bytes = %q, want %q", at, size-at, got, want)
			}
		}
	}
	if impl.DigestPair("a", "b") == impl.DigestPair("b", "a") {
		t.Error("DigestPair of a and b is that of b and a")
	}
	if got, want := impl.DigestPair("", ""), impl.Digest(""); got != want {
		t.Errorf("DigestPair of nothing = %q, want %q", got, want)
	}
}

func TestDigestsShareNothing(t *testing.T) {
	for _, n := range []int{0, 64, 3} {
		if word := patterned(8); shares(word, impl.Rotated(word, n)) {
			t.Errorf("Rotated by %d answers memory of its argument", n)
		}
	}
	for _, size := range edgeSizes() {
		text := patterned(size)
		for _, got := range []string{impl.KeccakPad(text), impl.Digest(text), impl.DigestHex(text), impl.DigestPair(text, "")} {
			if shares(text, got) {
				t.Errorf("a digest of %d bytes answers memory of its argument", size)
			}
		}
	}
}
