package tests

import (
	"encoding/hex"
	"fmt"
	"math"
	"slices"
	"strings"
	"testing"
	"unicode/utf8"

	"loop.example/g00321/impl"
)

const halfFigures = "0123456789abcdef"

// halvesBy are the halves that figures tell, one each.
func halvesBy(figures string) []int {
	list := []int{}
	for i := range len(figures) {
		list = append(list, strings.IndexByte(halfFigures, figures[i]))
	}
	return list
}

// figuresBy is of right halves.
func figuresBy(list []int) string {
	figures := make([]byte, len(list))
	for i, half := range list {
		figures[i] = halfFigures[half]
	}
	return string(figures)
}

func wordedNibbles(text string) []int {
	return halvesBy(hex.EncodeToString([]byte(text)))
}

func wordedNibblesOk(list []int) bool {
	right := len(list) < 65
	for _, half := range list {
		right = right && slices.Contains([]int{0, 1, 2, 3, 4, 5, 6, 7, 8, 9, 10, 11, 12, 13, 14, 15}, half)
	}
	return right
}

// prefixHeads are the figures ahead of the halves, of an even and of an odd number.
func prefixHeads(leaf bool) [2]string {
	if leaf {
		return [2]string{"20", "3"}
	}
	return [2]string{"00", "1"}
}

// wordedPrefix is of a right list.
func wordedPrefix(list []int, leaf bool) string {
	text, err := hex.DecodeString(prefixHeads(leaf)[len(list)%2] + figuresBy(list))
	if err != nil {
		panic(err)
	}
	return string(text)
}

func wordedReadPrefix(text string) ([]int, bool, bool) {
	figures := hex.EncodeToString([]byte(text))
	for _, leaf := range []bool{false, true} {
		for odd, head := range prefixHeads(leaf) {
			rest, ok := strings.CutPrefix(figures, head)
			if ok && len(rest)%2 == odd && len(rest) < 65 {
				return halvesBy(rest), leaf, true
			}
		}
	}
	return nil, false, false
}

// wordedCommon asks for the longest beginning that both have.
func wordedCommon(a []int, b []int) int {
	for size := min(len(a), len(b)); size > 0; size-- {
		if slices.Equal(a[:size], b[:size]) {
			return size
		}
	}
	return 0
}

func checkNibbles(t *testing.T, text string) {
	t.Helper()
	got := impl.NibblesOf(text)
	if len(got) != 2*len(text) || !slices.Equal(got, wordedNibbles(text)) {
		t.Errorf("NibblesOf(%.40q) = %.300v, want %.300v", text, got, wordedNibbles(text))
	}
	if impl.NibblesOk(got) != (len(text) <= 32) {
		t.Errorf("NibblesOk of the halves of %d bytes is %v", len(text), impl.NibblesOk(got))
	}
}

// checkPrefix asks of a list, right or not, for its text, of a leaf and of none, and for the list again.
func checkPrefix(t *testing.T, list []int) {
	t.Helper()
	if !wordedNibblesOk(list) {
		noPrefix(t, list)
		return
	}
	if !impl.NibblesOk(list) {
		t.Errorf("NibblesOk(%v) is false", list)
	}
	for _, leaf := range []bool{false, true} {
		text, ok := impl.PrefixText(list, leaf)
		if want := wordedPrefix(list, leaf); text != want || !ok {
			t.Errorf("PrefixText(%v, %v) = %x, %v, want %x, true", list, leaf, text, ok, want)
		}
		if back, is, ok := impl.ReadPrefix(text); !slices.Equal(back, list) || is != leaf || !ok {
			t.Errorf("ReadPrefix(%x) = %v, %v, %v, want %v, %v, true", text, back, is, ok, list, leaf)
		}
	}
}

func noPrefix(t *testing.T, list []int) {
	t.Helper()
	if impl.NibblesOk(list) {
		t.Errorf("NibblesOk(%.300v), %d halves, is true", list, len(list))
	}
	for _, leaf := range []bool{false, true} {
		if text, ok := impl.PrefixText(list, leaf); text != "" || ok {
			t.Errorf("PrefixText(%.300v, %v), %d halves, = %x, %v, want nothing, false", list, leaf, len(list), text, ok)
		}
	}
}

// checkReadPrefix tells whether the text is taken.
func checkReadPrefix(t *testing.T, text string) bool {
	t.Helper()
	want, leaf, right := wordedReadPrefix(text)
	list, is, ok := impl.ReadPrefix(text)
	if !slices.Equal(list, want) || is != leaf || ok != right {
		t.Errorf("ReadPrefix(%.80x), %d bytes, = %v, %v, %v, want %v, %v, %v", text, len(text), list, is, ok, want, leaf, right)
	}
	if !ok {
		return false
	}
	if back, ok := impl.PrefixText(list, is); back != text || !ok || !impl.NibblesOk(list) {
		t.Errorf("ReadPrefix took %x, whose halves have the text %x, %v", text, back, ok)
	}
	return true
}

func noReadPrefix(t *testing.T, text string) {
	t.Helper()
	if list, leaf, ok := impl.ReadPrefix(text); len(list) != 0 || leaf || ok {
		t.Errorf("ReadPrefix(%.80x), %d bytes, = %v, %v, %v, want nothing, false, false", text, len(text), list, leaf, ok)
	}
}

func checkCommon(t *testing.T, a []int, b []int, want int) {
	t.Helper()
	if got, turned := impl.Common(a, b), impl.Common(b, a); got != want || turned != want {
		t.Errorf("Common(%.300v, %.300v) = %d, turned round %d, want %d", a, b, got, turned, want)
	}
}

// scatteredHalves are so many halves, others for each start.
func scatteredHalves(start uint64, count int) []int {
	list := scatteredScalars(start, count)
	for i, n := range list {
		// The lowest bits of such numbers come again soon.
		list[i] = int(uint(n) >> 30 % 16)
	}
	return list
}

// edgeCounts are the numbers of halves that the document names.
func edgeCounts() []int {
	return []int{0, 1, 2, 3, 63, 64, 65, 66}
}

// notHalves are numbers outside 0 .. 15, some of which would be halves if they were cut to fewer bits.
func notHalves() []int {
	list := []int{-1, -2, -15, -16, -17, 16, 17, 31, 32, 47, 48, 255, 256, 257, 65536, -256, math.MaxInt, math.MaxInt - 1, math.MaxInt - 15, math.MinInt, math.MinInt + 1, math.MinInt + 15}
	for bit := 4; bit < 63; bit++ {
		list = append(list, 1<<bit, 1<<bit+5, -1<<bit, -1<<bit+5)
	}
	return list
}

// manyHalves are right lists of every length.
func manyHalves() [][]int {
	list := [][]int{nil, {}}
	for size := range 65 {
		for start := range 6 {
			list = append(list, scatteredHalves(uint64(97*size+start), size))
		}
		rising := []int{}
		for i := range size {
			rising = append(rising, i%16)
		}
		list = append(list, rising)
		for _, half := range []int{0, 1, 2, 3, 7, 8, 14, 15} {
			list = append(list, slices.Repeat([]int{half}, size))
		}
	}
	return list
}

// oddTexts are texts that are no right UTF-8, and such as are nearly none.
func oddTexts() []string {
	list := []string{
		"\x80", "\xbf", "\xc0", "\xc1", "\xc2", "\xdf", "\xe0", "\xef", "\xf0", "\xf4", "\xf5", "\xf8", "\xfc", "\xfe", "\xff", "\x80\x80", "\xbf\xbf\xbf", "\xff\xff", "\xff\xfe\xfd",
		"\xc0\x80", "\xc1\xbf", "\xe0\x80\x80", "\xe0\x9f\xbf", "\xf0\x80\x80\x80", "\xf0\x8f\xbf\xbf", "\xf8\x88\x80\x80\x80", "\xfc\x84\x80\x80\x80\x80",
		"\xed\xa0\x80", "\xed\xad\xbf", "\xed\xbf\xbf", "\xf4\x90\x80\x80", "\xf7\xbf\xbf\xbf",
		"\ufffd", "\ufffd\ufffd", "\xef\xbf", "\xef", "\xef\xbf\xbe", "\xef\xbf\xbf", "\xef\xbf\xbc", "\xef\xbe\xbd", "\xee\xbf\xbd", "\xbf\xbd", "\xbd\xbf\xef", "\xef\xef\xbf\xbd", "\xef\xbf\xef\xbf\xbd", "\xff\ufffd", "\ufffd\xff", "\ufffd\xbd", "\x80\ufffd\x80",
	}
	for _, whole := range []string{"\u00e9", "\u20ac", "\ufffd", "\uffff", "\U0001f600", "\U0010ffff", "\u0080", "\u0800", "\U00010000"} {
		for cut := range len(whole) {
			list = append(list, whole[:cut], whole[cut:], whole[:cut]+"a", whole[:cut]+whole, whole+whole[cut:], "b"+whole[:cut]+"\u00e9")
		}
	}
	return list
}

// The figures were written down by hand, or worked out apart from the program.
func TestNibbleForms(t *testing.T) {
	for _, form := range []struct {
		text   string
		halves []int
	}{
		{"", []int{}},
		{"\x00", []int{0, 0}},
		{"\x01", []int{0, 1}},
		{"\x0f", []int{0, 15}},
		{"\x10", []int{1, 0}},
		{"a", []int{6, 1}},
		{"\x7f", []int{7, 15}},
		{"\x80", []int{8, 0}},
		{"\xf0", []int{15, 0}},
		{"\xff", []int{15, 15}},
		{"dog", []int{6, 4, 6, 15, 6, 7}},
		{"\x12\x34", []int{1, 2, 3, 4}},
		{"\xfe\xdc\xba", []int{15, 14, 13, 12, 11, 10}},
		{"\u00e9", []int{12, 3, 10, 9}},
		{"\u20ac", []int{14, 2, 8, 2, 10, 12}},
		{"\U0001f600", []int{15, 0, 9, 15, 9, 8, 8, 0}},
		{"\ufffd", []int{14, 15, 11, 15, 11, 13}},
		{"\xef\xbf", []int{14, 15, 11, 15}},
		{"a\xffb", []int{6, 1, 15, 15, 6, 2}},
		{"\xff\ufffd\xff", []int{15, 15, 14, 15, 11, 15, 11, 13, 15, 15}},
		{"\xc0\x80", []int{12, 0, 8, 0}},
		{"\xed\xa0\x80", []int{14, 13, 10, 0, 8, 0}},
	} {
		if got := impl.NibblesOf(form.text); !slices.Equal(got, form.halves) {
			t.Errorf("NibblesOf(%q) = %v, want %v", form.text, got, form.halves)
		}
		checkNibbles(t, form.text)
	}
}

func TestNibblesOfShortTexts(t *testing.T) {
	checkNibbles(t, "")
	for first := range 256 {
		one := string([]byte{byte(first)})
		checkNibbles(t, one)
		if got, want := impl.NibblesOf(one), []int{first / 16, first % 16}; !slices.Equal(got, want) {
			t.Errorf("NibblesOf(%q) = %v, want %v", one, got, want)
		}
		for second := range 256 {
			checkNibbles(t, one+string([]byte{byte(second)}))
		}
	}
}

// Each byte that begins, goes on or breaks off a rune, beside each other one.
func TestNibblesOfOddTexts(t *testing.T) {
	for _, text := range oddTexts() {
		checkNibbles(t, text)
		checkNibbles(t, "a"+text)
		checkNibbles(t, text+"z")
		for _, other := range oddTexts() {
			checkNibbles(t, text+other)
		}
	}
	bytes := "\x00\x41\x7f\x80\x8f\x90\x9f\xa0\xbd\xbf\xc0\xc2\xe0\xed\xef\xf0\xf4\xff"
	for i := range len(bytes) * len(bytes) * len(bytes) * len(bytes) {
		text := []byte{}
		for range 4 {
			text = append(text, bytes[i%len(bytes)])
			i /= len(bytes)
		}
		checkNibbles(t, string(text))
	}
}

func TestNibblesOfEveryRune(t *testing.T) {
	for r := rune(0); r <= utf8.MaxRune; r++ {
		text := string(r)
		if got := impl.NibblesOf(text); !slices.Equal(got, wordedNibbles(text)) {
			t.Fatalf("NibblesOf(%q) = %v, want %v", text, got, wordedNibbles(text))
		}
	}
	for _, r := range []rune{0, 'a', 127, 128, 0x7ff, 0x800, 0xd7ff, 0xe000, 0xfffc, 0xfffd, 0xfffe, 0xffff, 0x10000, 0x10ffff} {
		for _, other := range []rune{0, 'z', 128, 0x7ff, 0x800, 0xfffd, 0x10000, 0x10ffff} {
			checkNibbles(t, string([]rune{r, other, r}))
			checkNibbles(t, string(r)+"\xff"+string(other))
		}
	}
}

// No limit is named for them.
func TestNibblesOfLongTexts(t *testing.T) {
	checkNibbles(t, allBytes())
	for _, size := range []int{31, 32, 33, 34, 63, 64, 65, 66, 255, 256, 257, 600, 900, impl.MaxText, impl.MaxText + 1, 100000} {
		checkNibbles(t, patterned(size))
		checkNibbles(t, strings.Repeat("\xff", size))
		checkNibbles(t, strings.Repeat("\ufffd", size))
		checkNibbles(t, strings.Repeat("\U0001f600", size)[1:])
	}
}

// The figures were written down by hand.
func TestPrefixForms(t *testing.T) {
	for _, form := range []struct {
		halves  []int
		leaf    bool
		figures string
	}{
		{nil, false, "00"}, {nil, true, "20"}, {[]int{}, false, "00"}, {[]int{}, true, "20"},
		{[]int{0}, false, "10"}, {[]int{0}, true, "30"}, {[]int{15}, false, "1f"}, {[]int{15}, true, "3f"}, {[]int{7}, false, "17"},
		{[]int{0, 0}, false, "0000"}, {[]int{0, 0}, true, "2000"}, {[]int{15, 15}, false, "00ff"}, {[]int{1, 2}, true, "2012"},
		{[]int{1, 2, 3}, true, "3123"}, {[]int{1, 2, 3}, false, "1123"},
		{[]int{1, 2, 3, 4, 5}, false, "112345"}, {[]int{0, 1, 2, 3, 4, 5}, false, "00012345"},
		{[]int{0, 15, 1, 12, 11, 8}, true, "200f1cb8"}, {[]int{15, 1, 12, 11, 8}, true, "3f1cb8"},
		{slices.Repeat([]int{9}, 63), false, "19" + strings.Repeat("99", 31)}, {slices.Repeat([]int{9}, 63), true, "39" + strings.Repeat("99", 31)},
		{slices.Repeat([]int{10, 11}, 32), false, "00" + strings.Repeat("ab", 32)}, {slices.Repeat([]int{10, 11}, 32), true, "20" + strings.Repeat("ab", 32)},
	} {
		text := fromFigures(t, form.figures)
		if got, ok := impl.PrefixText(form.halves, form.leaf); got != text || !ok {
			t.Errorf("PrefixText(%v, %v) = %x, %v, want %s, true", form.halves, form.leaf, got, ok, form.figures)
		}
		if list, leaf, ok := impl.ReadPrefix(text); !slices.Equal(list, form.halves) || leaf != form.leaf || !ok {
			t.Errorf("ReadPrefix(%s) = %v, %v, %v, want %v, %v, true", form.figures, list, leaf, ok, form.halves, form.leaf)
		}
		if wordedPrefix(form.halves, form.leaf) != text {
			t.Errorf("the words make %x of %v, want %s", wordedPrefix(form.halves, form.leaf), form.halves, form.figures)
		}
	}
}

// The promise: halves come back from their texts.
func TestHalvesComeBack(t *testing.T) {
	for _, list := range manyHalves() {
		checkPrefix(t, list)
		for place := range list {
			for _, half := range []int{0, 15, (list[place] + 1) % 16, (list[place] + 8) % 16} {
				checkPrefix(t, withNumber(list, place, half))
			}
		}
	}
}

func TestHalvesOfEveryShortList(t *testing.T) {
	texts := map[string]bool{}
	lists := [][]int{{}}
	for size := range 5 {
		longer := [][]int{}
		for _, list := range lists {
			checkPrefix(t, list)
			for _, leaf := range []bool{false, true} {
				text, _ := impl.PrefixText(list, leaf)
				if texts[text] || len(text) != 1+size/2 {
					t.Errorf("PrefixText(%v, %v) = %x, which other halves have, or which is %d bytes long", list, leaf, text, len(text))
				}
				texts[text] = true
			}
			for half := range 16 {
				longer = append(longer, append(slices.Clone(list), half))
			}
		}
		lists = longer
	}
}

// A key's halves, from any one of them on, stand two by two behind the first byte as they stood in the key.
func TestPrefixOfTheHalvesOfTexts(t *testing.T) {
	for size := range 33 {
		for _, key := range []string{patterned(size), patterned(size + 40)[40:], strings.Repeat("\xff", size), strings.Repeat("\ufffd", size)[:size]} {
			halves := impl.NibblesOf(key)
			for from := range len(halves) + 1 {
				checkPrefix(t, halves[from:])
				if text, _ := impl.PrefixText(halves[from:], true); text[1:] != key[(from+1)/2:] {
					t.Errorf("PrefixText of the halves of %x from %d on = %x", key, from, text)
				}
			}
		}
	}
}

func TestHalvesOfTheNamedCounts(t *testing.T) {
	for _, count := range append(edgeCounts(), 4, 5, 31, 32, 33, 62, 67, 68, 127, 128, 129, 256, 1000, 65536) {
		right := count <= 64
		for _, list := range [][]int{make([]int, count), slices.Repeat([]int{15}, count), scatteredHalves(uint64(count)+293, count)} {
			checkPrefix(t, list)
			if impl.NibblesOk(list) != right {
				t.Errorf("NibblesOk of %d halves is %v", count, !right)
			}
			for _, leaf := range []bool{false, true} {
				text, ok := impl.PrefixText(list, leaf)
				if ok != right || ok && len(text) != 1+count/2 || !ok && text != "" {
					t.Errorf("PrefixText of %d halves, %v = %x, %v", count, leaf, text, ok)
				}
			}
		}
	}
}

// One number at any place makes a list wrong, whatever stands beside it.
func TestNumbersThatAreNoHalves(t *testing.T) {
	for _, count := range append(edgeCounts(), 4, 5, 30, 31) {
		for _, list := range [][]int{make([]int, count), slices.Repeat([]int{15}, count), scatteredHalves(uint64(count)+307, count)} {
			for _, place := range []int{0, 1, count / 2, count - 2, count - 1} {
				if place < 0 || place >= count {
					continue
				}
				for _, n := range notHalves() {
					noPrefix(t, withNumber(list, place, n))
				}
				for half := range 16 {
					checkPrefix(t, withNumber(list, place, half))
				}
			}
		}
	}
	for _, n := range notHalves() {
		noPrefix(t, []int{n})
		noPrefix(t, []int{n, -n})
		noPrefix(t, slices.Repeat([]int{n}, 64))
		noPrefix(t, slices.Repeat([]int{n}, 65))
	}
}

// Each number of -40 .. 300 alone, among others, and two that would be right halves together.
func TestNibblesOkOfEachNumber(t *testing.T) {
	for n := -40; n <= 300; n++ {
		for _, list := range [][]int{{n}, {n, 0}, {0, n}, {15, n, 15}, {n, 16 - n}, {1, 2, 3, n}} {
			if got := impl.NibblesOk(list); got != wordedNibblesOk(list) {
				t.Errorf("NibblesOk(%v) = %v, want %v", list, got, wordedNibblesOk(list))
			}
			checkPrefix(t, list)
		}
	}
}

// behindFirst are texts that may stand behind the first byte.
func behindFirst() []string {
	list := append(oddTexts(), "", "\x00", "\x01", "\x10", "\x20", "a", "ab", "abc", "\x00\x00", "\x12\x34\x56")
	for _, size := range []int{1, 2, 3, 15, 16, 30, 31, 32, 33, 34, 63, 64, 65, 255} {
		list = append(list, patterned(size), strings.Repeat("\x00", size), strings.Repeat("\xff", size))
	}
	return list
}

// With an even number just 0 and 32 begin a text, with an odd one 16 .. 31 and 48 .. 63.
func TestReadPrefixOfEachFirstByte(t *testing.T) {
	for first := range 256 {
		right := first == 0 || first == 32 || first/16 == 1 || first/16 == 3
		for _, behind := range behindFirst() {
			text := string([]byte{byte(first)}) + behind
			fits := len(behind) <= 31 || len(behind) == 32 && first%32 == 0
			if taken := checkReadPrefix(t, text); taken != (right && fits) {
				t.Errorf("ReadPrefix(%.80x), %d bytes, takes it: %v", text, len(text), taken)
			}
		}
		if first > 63 || first > 0 && first < 16 || first > 32 && first < 48 {
			noReadPrefix(t, string([]byte{byte(first)}))
			noReadPrefix(t, string([]byte{byte(first), 0}))
		}
	}
}

func TestReadPrefixOfShortTexts(t *testing.T) {
	noReadPrefix(t, "")
	taken := 0
	for first := range 256 {
		for second := range 256 {
			two := string([]byte{byte(first), byte(second)})
			if checkReadPrefix(t, two) {
				taken++
			}
			for _, third := range []string{"\x00", "\x0f", "\x10", "\x80", "\xff"} {
				checkReadPrefix(t, two+third)
			}
		}
	}
	if taken != 34*256 {
		t.Errorf("ReadPrefix takes %d texts of two bytes, want %d", taken, 34*256)
	}
}

// Texts of 33 and 34 bytes come to 64, 65 and 66 halves.
func TestReadPrefixOfTheNamedSizes(t *testing.T) {
	for _, size := range []int{31, 32, 33, 34, 35, 36, 64, 65, 66, 67, 128, 256, 257, 1000, 65536, 1 << 24} {
		for _, behind := range []string{strings.Repeat("\x00", size-1), strings.Repeat("\xff", size-1), patterned(size - 1)} {
			for _, first := range []string{"\x00", "\x10", "\x1f", "\x20", "\x30", "\x3f"} {
				even := first == "\x00" || first == "\x20"
				if size > 33 || size == 33 && !even {
					noReadPrefix(t, first+behind)
					continue
				}
				list, leaf, ok := impl.ReadPrefix(first + behind)
				if count := 2 * (size - 1); !ok || leaf != (first >= "\x20") || even && len(list) != count || !even && len(list) != count+1 {
					t.Errorf("ReadPrefix of %d bytes that begin with %x = %v, %v, %v", size, first, list, leaf, ok)
				}
				checkReadPrefix(t, first+behind)
			}
		}
	}
}

// A text with one byte turned, put in or left out is read as what it says then, or not at all.
func TestReadPrefixOfTextsNearRightOnes(t *testing.T) {
	for _, size := range append(edgeCounts(), 4, 7, 32, 33) {
		if size > 64 {
			continue
		}
		list := scatteredHalves(uint64(size)+311, size)
		for _, leaf := range []bool{false, true} {
			text := wordedPrefix(list, leaf)
			for place := range len(text) {
				for b := range 256 {
					one := string([]byte{byte(b)})
					checkReadPrefix(t, text[:place]+one+text[place+1:])
					checkReadPrefix(t, text[:place]+one+text[place:])
				}
				checkReadPrefix(t, text[:place])
				checkReadPrefix(t, text[place:])
				checkReadPrefix(t, text[:place]+text[place+1:])
			}
			checkReadPrefix(t, text+text)
			checkReadPrefix(t, text+"\x00")
		}
	}
}

// A right first byte with what is no right UTF-8 behind it, and such a byte ahead.
func TestReadPrefixOfOddTexts(t *testing.T) {
	for _, text := range oddTexts() {
		for _, first := range []string{"\x00", "\x1f", "\x20", "\x35"} {
			list, leaf, ok := impl.ReadPrefix(first + text)
			if want := wordedNibbles(first + text); !ok || leaf != (first >= "\x20") || !slices.Equal(list, want[len(want)-len(list):]) || len(list)/2 != len(text) {
				t.Errorf("ReadPrefix(%x) = %v, %v, %v", first+text, list, leaf, ok)
			}
		}
		checkReadPrefix(t, text)
		for _, other := range oddTexts() {
			checkReadPrefix(t, "\x20"+text+other)
			checkReadPrefix(t, "\x17"+text+other)
			checkReadPrefix(t, text+other)
		}
	}
	for _, text := range oddTexts() {
		if text != "" && text[0] >= 64 {
			noReadPrefix(t, text)
		}
	}
}

// The numbers were written down by hand.
func TestCommonForms(t *testing.T) {
	for _, form := range []struct {
		a    []int
		b    []int
		want int
	}{
		{nil, nil, 0}, {nil, []int{}, 0}, {[]int{}, []int{}, 0}, {nil, []int{1}, 0}, {[]int{}, []int{0}, 0}, {nil, []int{0, 0, 0}, 0},
		{[]int{1}, []int{1}, 1}, {[]int{1}, []int{2}, 0}, {[]int{0}, []int{0, 0}, 1}, {[]int{1, 2, 3}, []int{1, 2}, 2}, {[]int{1, 2, 3}, []int{1, 2, 3}, 3},
		{[]int{9, 2, 3}, []int{1, 2, 3}, 0}, {[]int{1, 9, 3}, []int{1, 2, 3}, 1}, {[]int{1, 2, 9}, []int{1, 2, 3}, 2}, {[]int{1, 9, 3, 4}, []int{1, 8, 3, 4}, 1},
		{[]int{1, 2, 3}, []int{2, 3}, 0}, {[]int{3, 2, 1}, []int{1, 2, 3}, 0}, {[]int{5, 5, 5}, []int{5, 5, 6, 5}, 2},
		{[]int{-1, 16, math.MaxInt, math.MinInt}, []int{-1, 16, math.MaxInt, math.MinInt}, 4}, {[]int{math.MaxInt, 1}, []int{math.MinInt, 1}, 0}, {[]int{-1}, []int{15}, 0}, {[]int{16}, []int{0}, 0}, {[]int{256}, []int{0}, 0}, {[]int{1 << 32}, []int{0}, 0}, {[]int{-1}, []int{1}, 0},
	} {
		checkCommon(t, form.a, form.b, form.want)
		if wordedCommon(form.a, form.b) != form.want {
			t.Errorf("the words make %d of %v and %v, want %d", wordedCommon(form.a, form.b), form.a, form.b, form.want)
		}
	}
}

func TestCommonOfShortLists(t *testing.T) {
	lists := [][]int{{}}
	for from, size := 0, 0; size < 4; size++ {
		end := len(lists)
		for _, list := range lists[from:end] {
			for _, half := range []int{0, 1, 15} {
				lists = append(lists, append(slices.Clone(list), half))
			}
		}
		from = end
	}
	for _, a := range lists {
		for _, b := range lists {
			checkCommon(t, a, b, wordedCommon(a, b))
		}
	}
}

// Lists that part at each place, or of which one begins with the other; no limit is named for them.
func TestCommonOfListsThatPart(t *testing.T) {
	for _, size := range append(edgeCounts(), 4, 31, 130) {
		list := scatteredHalves(uint64(size)+313, size)
		checkCommon(t, list, slices.Clone(list), size)
		checkCommon(t, list, append(slices.Clone(list), 0), size)
		for place := range size {
			checkCommon(t, list, list[:place], place)
			checkCommon(t, list, withNumber(list, place, (list[place]+1)%16), place)
			checkCommon(t, list, withNumber(list, place, list[place]+16), place)
			checkCommon(t, list, withNumber(list, place, -1), place)
			checkCommon(t, list[:place+1], withNumber(list, place, math.MinInt), place)
			checkCommon(t, append(slices.Clone(list), 3), append(withNumber(list, place, 16), 3), place)
		}
	}
	for _, size := range []int{1000, 100000} {
		list := scatteredScalars(uint64(size)+317, size)
		checkCommon(t, list, slices.Clone(list), size)
		checkCommon(t, list, withNumber(list, size-1, 0), size-1)
		checkCommon(t, list, list[:size/2], size/2)
	}
}

// Numbers that are no halves are the same just when they are the same numbers.
func TestCommonOfAnyNumbers(t *testing.T) {
	list := append(notHalves(), 0, 1, 14, 15)
	for i, first := range list {
		for j, second := range list {
			want := 0
			if i == j || first == second {
				want = 1
			}
			checkCommon(t, []int{first}, []int{second}, want)
			checkCommon(t, []int{7, first, 2}, []int{7, second, 2}, 1+2*want)
		}
	}
}

// keptHalves are lists of all kinds, right and wrong ones.
func keptHalves() [][]int {
	list := [][]int{nil, {}, {0}, {15}, {1, 2}, {1, 2, 3}, {1, 2, 4}, {-1}, {16, 0}, {3, math.MaxInt}, {math.MinInt, 5, 5}}
	for _, count := range edgeCounts() {
		list = append(list, scatteredHalves(uint64(count)+331, count), make([]int, count))
	}
	return list
}

func TestHalvesStayAsTheyWere(t *testing.T) {
	for _, first := range keptHalves() {
		for _, second := range keptHalves() {
			a, b := roomyNumbers(first), roomyNumbers(second)
			checkPrefix(t, a)
			checkCommon(t, a, b, wordedCommon(first, second))
			checkCommon(t, a, second, wordedCommon(first, second))
			checkCommon(t, a, a, len(a))
			for i, list := range [][]int{a, b} {
				if want := slices.Concat([][]int{first, second}[i], []int{-7, -9}); !slices.Equal(list[:len(list)+2], want) {
					t.Errorf("of %v and %v one is %v", first, second, list[:len(list)+2])
				}
			}
		}
	}
}

// A list may be a piece of another one.
func TestHalvesOfOneList(t *testing.T) {
	list := scatteredHalves(337, 90)
	was := slices.Clone(list)
	for from := range 26 {
		for to := from; to <= from+64; to++ {
			checkPrefix(t, list[from:to])
			checkCommon(t, list[from:to], list[from:], to-from)
			checkCommon(t, list[from:to], list, wordedCommon(was[from:to], was))
		}
		noPrefix(t, list[from:min(from+65, 90)][:65:65])
	}
	if !slices.Equal(list, was) {
		t.Errorf("the list is %v, was %v", list, was)
	}
}

func TestNoHalvesAndNilAreTheSame(t *testing.T) {
	for _, none := range [][]int{nil, {}, make([]int, 0, 5), []int{1, 2, 3}[:0]} {
		for leaf, want := range map[bool]string{false: "\x00", true: "\x20"} {
			if text, ok := impl.PrefixText(none, leaf); text != want || !ok || !impl.NibblesOk(none) {
				t.Errorf("PrefixText of no halves, %v = %x, %v, NibblesOk %v", leaf, text, ok, impl.NibblesOk(none))
			}
			if list, is, ok := impl.ReadPrefix(want); len(list) != 0 || is != leaf || !ok {
				t.Errorf("ReadPrefix(%x) = %v, %v, %v, want nothing, %v, true", want, list, is, ok, leaf)
			}
		}
		for _, other := range [][]int{nil, {}, {0}, {1, 2, 3}} {
			checkCommon(t, none, other, 0)
		}
	}
}

// halfAnswers are the lists and texts that the functions answer of a list and of its texts.
func halfAnswers(list []int) ([][]int, []string) {
	lists, texts := [][]int{}, []string{}
	for _, leaf := range []bool{false, true} {
		text, _ := impl.PrefixText(list, leaf)
		read, _, _ := impl.ReadPrefix(text)
		lists, texts = append(lists, read, impl.NibblesOf(text)), append(texts, text)
	}
	return lists, texts
}

func TestHalvesAreNewMemory(t *testing.T) {
	for _, plain := range append(keptHalves(), manyHalves()...) {
		list := roomyNumbers(plain)
		lists, texts := halfAnswers(list)
		again, more := halfAnswers(list)
		lists, texts = append(lists, again...), append(texts, more...)
		for i, answer := range lists {
			if listsShare(answer, list) {
				t.Errorf("of %v answer %d shares memory with the argument", plain, i)
			}
			for j := range i {
				if listsShare(answer, lists[j]) {
					t.Errorf("of %v answers %d and %d share memory", plain, j, i)
				}
			}
		}
		for i, text := range texts {
			for j := range i {
				if shares(text, texts[j]) {
					t.Errorf("of %v texts %d and %d share memory", plain, j, i)
				}
			}
		}
	}
}

// What is done to an answer, or to a list that was handed in, is not in the next one.
func TestHalvesAreAnsweredAlikeAgain(t *testing.T) {
	for _, plain := range keptHalves() {
		lists, texts := halfAnswers(plain)
		kept := fmt.Sprint(lists, texts)
		for _, answer := range lists {
			spoil(answer)
		}
		handed := slices.Clone(plain)
		halfAnswers(handed)
		spoil(handed)
		noPrefix(t, []int{1, 16})
		noReadPrefix(t, "\x21\x00")
		checkCommon(t, plain, []int{-5}, 0)
		again, more := halfAnswers(plain)
		if got := fmt.Sprint(again, more); got != kept {
			t.Errorf("of %v it is %s, then %s", plain, kept, got)
		}
		if got := fmt.Sprint(texts); got != fmt.Sprint(more) {
			t.Errorf("texts of %v are %s, then %s", plain, fmt.Sprint(more), got)
		}
	}
}
