package tests

import (
	"fmt"
	"math"
	"math/big"
	"reflect"
	"slices"
	"strings"
	"testing"

	"loop.example/g00321/impl"
)

func textItem(text string) impl.Item {
	return impl.Item{Text: text}
}

func listItem(kids ...impl.Item) impl.Item {
	return impl.Item{List: true, Kids: kids}
}

// textKids are so many Kids, texts of one byte below 128 that differ.
func textKids(count int) []impl.Item {
	kids := []impl.Item{}
	for i := range count {
		kids = append(kids, textItem(string([]byte{byte(i % 128)})))
	}
	return kids
}

// nested is an item in so many Lists that stand in one another.
func nested(lists int, x impl.Item) impl.Item {
	for range lists {
		x = listItem(x)
	}
	return x
}

// itemTold is an item in a line, which is cut where it gets long; of one that stands in itself it never comes to an end.
func itemTold(x impl.Item) string {
	line := fmt.Sprintf("%.40q", x.Text)
	if x.List || len(x.Kids) > 0 {
		parts := []string{}
		for _, kid := range x.Kids[:min(len(x.Kids), 20)] {
			parts = append(parts, itemTold(kid))
		}
		line = fmt.Sprintf("{%v %s %d: %s}", x.List, line, len(x.Kids), strings.Join(parts, " "))
	}
	return line[:min(len(line), 400)]
}

// listsDeep is how many Lists stand in one another.
func listsDeep(x impl.Item) int {
	deepest := 0
	for _, kid := range x.Kids {
		deepest = max(deepest, listsDeep(kid))
	}
	if x.List {
		deepest++
	}
	return deepest
}

func wordedRightKind(x impl.Item) bool {
	if !x.List {
		return len(x.Text) <= 600 && len(x.Kids) == 0
	}
	right := x.Text == "" && len(x.Kids) <= 17
	for _, kid := range x.Kids {
		right = right && wordedRightKind(kid)
	}
	return right
}

func wordedItemOk(x impl.Item) bool {
	return wordedRightKind(x) && listsDeep(x) <= 4
}

// wordedNumber is a number in bytes, by numbers of any size.
func wordedNumber(n int) string {
	if n < 0 {
		return ""
	}
	return string(big.NewInt(int64(n)).Bytes())
}

// wordedHeaded has the length of the body ahead of it, told from the one byte on, or from the other one when it is long.
func wordedHeaded(short int, long int, body string) string {
	if len(body) <= 55 {
		return string([]byte{byte(short + len(body))}) + body
	}
	size := wordedNumber(len(body))
	return string([]byte{byte(long + len(size))}) + size + body
}

// wordedItemText knows no limit.
func wordedItemText(x impl.Item) string {
	if x.List {
		return wordedHeaded(192, 247, wordedKidTexts(x.Kids))
	}
	if len(x.Text) == 1 && x.Text[0] < 128 {
		return x.Text
	}
	return wordedHeaded(128, 183, x.Text)
}

func wordedKidTexts(kids []impl.Item) string {
	texts := []string{}
	for _, kid := range kids {
		texts = append(texts, wordedItemText(kid))
	}
	return strings.Join(texts, "")
}

// wordedBody is where the body behind a head begins and ends, whose length the head tells from the one byte on or from the other one; false when there is none, or a shorter form of it.
func wordedBody(text string, short int, long int) (int, int, bool) {
	first := int(text[0])
	if first <= long {
		end := 1 + first - short
		return 1, end, end <= len(text)
	}
	from := 1 + first - long
	if from > len(text) || text[1] == 0 {
		return 0, 0, false
	}
	size := new(big.Int).SetBytes([]byte(text[1:from]))
	if size.Cmp(big.NewInt(55)) <= 0 || size.Cmp(big.NewInt(int64(len(text)-from))) > 0 {
		return 0, 0, false
	}
	return from, from + int(size.Int64()), true
}

// wordedTake takes the item from the beginning of a text, and tells its bytes; it asks at each byte for the one way, in which so many Lists at most stand in one another.
func wordedTake(text string, nest int) (impl.Item, int, bool) {
	switch {
	case text == "":
		return impl.Item{}, 0, false
	case text[0] < 128:
		return textItem(text[:1]), 1, true
	case text[0] < 192:
		from, end, ok := wordedBody(text, 128, 183)
		if !ok || end-from > 600 || end-from == 1 && text[from] < 128 {
			return impl.Item{}, 0, false
		}
		return textItem(text[from:end]), end, true
	}
	from, end, ok := wordedBody(text, 192, 247)
	if !ok || nest == 0 {
		return impl.Item{}, 0, false
	}
	list := impl.Item{List: true}
	for at := from; at < end; {
		kid, size, ok := wordedTake(text[at:end], nest-1)
		if !ok {
			return impl.Item{}, 0, false
		}
		list.Kids = append(list.Kids, kid)
		at += size
	}
	return list, end, len(list.Kids) <= 17
}

func wordedReadItem(text string) (impl.Item, bool) {
	x, size, ok := wordedTake(text, 4)
	if !ok || size != len(text) || len(text) > 900 {
		return impl.Item{}, false
	}
	return x, true
}

func wordedSame(a impl.Item, b impl.Item) bool {
	same := a.List == b.List && a.Text == b.Text && len(a.Kids) == len(b.Kids)
	for i := 0; same && i < len(a.Kids); i++ {
		same = wordedSame(a.Kids[i], b.Kids[i])
	}
	return same
}

func wordedReadNum(text string) (int, bool) {
	n := new(big.Int).SetBytes([]byte(text))
	if n.Cmp(big.NewInt(1000000000)) > 0 || string(n.Bytes()) != text {
		return 0, false
	}
	return int(n.Int64()), true
}

// checkItem asks all functions for their answers to an item, right or not, and for the item again.
func checkItem(t *testing.T, x impl.Item) {
	t.Helper()
	right, want := wordedItemOk(x), ""
	if got := impl.ItemOk(x); got != right {
		t.Errorf("ItemOk(%s) = %v, want %v", itemTold(x), got, right)
	}
	fits := right && len(wordedItemText(x)) <= 900
	if fits {
		want = wordedItemText(x)
	}
	text, ok := impl.ItemText(x)
	if text != want || ok != fits {
		t.Errorf("ItemText(%s) = %.80q, %v, want %.80q, %v", itemTold(x), text, ok, want, fits)
	}
	if !fits {
		return
	}
	if back, ok := impl.ReadItem(text); !ok || !wordedSame(back, x) || !impl.SameItem(back, x) || !impl.SameItem(x, back) {
		t.Errorf("ReadItem(%.80q) = %s, %v, want %s, true", text, itemTold(back), ok, itemTold(x))
	}
}

// checkReadItem tells whether the text is taken.
func checkReadItem(t *testing.T, text string) bool {
	t.Helper()
	want, right := wordedReadItem(text)
	got, ok := impl.ReadItem(text)
	if ok != right || !wordedSame(got, want) {
		t.Errorf("ReadItem(%.80q) = %s, %v, want %s, %v", text, itemTold(got), ok, itemTold(want), right)
	}
	if !ok {
		return false
	}
	if back, ok := impl.ItemText(got); back != text || !ok || !impl.ItemOk(got) {
		t.Errorf("ReadItem took %.80q, whose item has the text %.80q, %v, ItemOk %v", text, back, ok, impl.ItemOk(got))
	}
	return true
}

func noItem(t *testing.T, x impl.Item) {
	t.Helper()
	if impl.ItemOk(x) {
		t.Errorf("ItemOk(%s) is true", itemTold(x))
	}
	noItemText(t, x)
}

func noItemText(t *testing.T, x impl.Item) {
	t.Helper()
	if text, ok := impl.ItemText(x); text != "" || ok {
		t.Errorf("ItemText(%s) = %.80q, %v, want nothing, false", itemTold(x), text, ok)
	}
}

func noReadItem(t *testing.T, text string) {
	t.Helper()
	if x, ok := impl.ReadItem(text); ok || x.List || x.Text != "" || len(x.Kids) != 0 {
		t.Errorf("ReadItem(%.80q) = %s, %v, want the zero Item, false", text, itemTold(x), ok)
	}
}

func checkSameItem(t *testing.T, a impl.Item, b impl.Item, want bool) {
	t.Helper()
	if impl.SameItem(a, b) != want || impl.SameItem(b, a) != want {
		t.Errorf("SameItem(%s, %s) = %v, turned round %v, want %v", itemTold(a), itemTold(b), impl.SameItem(a, b), impl.SameItem(b, a), want)
	}
}

func checkReadNum(t *testing.T, text string) {
	t.Helper()
	want, right := wordedReadNum(text)
	n, ok := impl.ReadNum(text)
	if n != want || ok != right {
		t.Errorf("ReadNum(%.40q) = %d, %v, want %d, %v", text, n, ok, want, right)
	}
	if ok && impl.NumText(n) != text {
		t.Errorf("ReadNum took %q, whose number has the text %q", text, impl.NumText(n))
	}
}

// itemSizes are sizes of texts: those beside which a text is written otherwise, and others between them.
func itemSizes() []int {
	return []int{0, 1, 2, 3, 31, 32, 33, 53, 54, 55, 56, 57, 58, 100, 127, 128, 129, 254, 255, 256, 257, 258, 400, 511, 512, 513, 598, 599, 600}
}

// fillings are texts of that size, some of which look like heads.
func fillings(size int) []string {
	list := []string{patterned(size)}
	for _, b := range []string{"\x00", "\x7f", "\x80", "\x81", "\xb8", "\xc0", "\xf8", "\xff"} {
		list = append(list, strings.Repeat(b, size))
	}
	return list
}

// kidsOf are Kids whose texts have that many bytes together, the longest ones first.
func kidsOf(total int) []impl.Item {
	kids := []impl.Item{}
	for left := total; left > 0; {
		size := min(left, 600)
		for len(wordedItemText(textItem(patterned(size)))) > left {
			size--
		}
		kids = append(kids, textItem(patterned(size)))
		left -= len(wordedItemText(kids[len(kids)-1]))
	}
	return kids
}

// scatteredItem is some right item, with no more Lists in one another than that.
func scatteredItem(state *uint64, nest int) impl.Item {
	*state = *state*6364136223846793005 + 1442695040888963407
	drawn := int(*state >> 40)
	if nest == 0 || drawn%3 == 0 {
		size := []int{0, 1, 1, 1, 2, 3, 4, 8, 20, 32, 54, 55, 56, 57}[drawn/3%14]
		return textItem(patterned(size + 300)[drawn/42%300:][:size])
	}
	list := impl.Item{List: true}
	for range drawn / 3 % 7 {
		list.Kids = append(list.Kids, scatteredItem(state, nest-1))
	}
	return list
}

// manyItems are right items of all kinds, not all of which can be written.
func manyItems() []impl.Item {
	list := []impl.Item{{}, {List: true}, listItem(listItem(), nested(2, listItem()), listItem(listItem(), nested(1, listItem())))}
	for _, size := range itemSizes() {
		x := textItem(patterned(size))
		list = append(list, x, listItem(x), nested(4, x), listItem(x, textItem("dog"), listItem(x)), listItem(kidsOf(size)...))
	}
	for lists := range 5 {
		list = append(list, nested(lists, textItem("cat")), nested(lists, textItem("")), nested(lists, textItem("\x80")), nested(lists, textItem("\x7f")))
	}
	for _, count := range []int{1, 2, 3, 16, 17} {
		kids := textKids(count)
		list = append(list, listItem(kids...), nested(3, listItem(kids...)), listItem(listItem(kids...), listItem(), listItem(kids...)))
	}
	state := uint64(271)
	for range 300 {
		list = append(list, scatteredItem(&state, 4))
	}
	return list
}

// wrongItems are not right, each for one reason.
func wrongItems() []impl.Item {
	list := []impl.Item{
		{List: true, Text: "a"}, {List: true, Text: "\x00"}, {List: true, Text: patterned(600)}, {List: true, Text: "a", Kids: textKids(2)},
		{Kids: textKids(1)}, {Text: "a", Kids: textKids(1)}, {Text: "a", Kids: textKids(17)}, {Kids: []impl.Item{{}}}, {Kids: []impl.Item{listItem()}}, {Text: patterned(600), Kids: []impl.Item{{}}},
		textItem(patterned(601)), textItem(patterned(602)), textItem(patterned(900)), textItem(strings.Repeat("\x00", 65536)), textItem(patterned(256 + 600)),
		listItem(textKids(18)...), listItem(textKids(19)...), listItem(textKids(34)...), listItem(textKids(256)...), listItem(textKids(272)...), listItem(make([]impl.Item, 18)...), listItem(make([]impl.Item, 65536)...),
	}
	return append(list, nested(5, textItem("a")), nested(5, textItem("")), nested(4, listItem()), nested(5, listItem()), nested(8, listItem()), nested(100, listItem()))
}

func TestItemLimits(t *testing.T) {
	if impl.MaxBytes != 900 || impl.MaxNest != 4 {
		t.Errorf("MaxBytes = %d, MaxNest = %d, want 900 and 4", impl.MaxBytes, impl.MaxNest)
	}
	item := reflect.TypeFor[impl.Item]()
	want := []reflect.StructField{{Name: "List", Type: reflect.TypeFor[bool]()}, {Name: "Text", Type: reflect.TypeFor[string]()}, {Name: "Kids", Type: reflect.TypeFor[[]impl.Item]()}}
	if item.NumField() != len(want) {
		t.Fatalf("an Item has %d fields, want %d", item.NumField(), len(want))
	}
	for i, field := range want {
		if got := item.Field(i); got.Name != field.Name || got.Type != field.Type || got.Anonymous {
			t.Errorf("field %d of an Item is %v %v, want %v %v", i, got.Name, got.Type, field.Name, field.Type)
		}
	}
}

// The figures were worked out apart from the program.
func TestItemForms(t *testing.T) {
	lorem := "Lorem ipsum dolor sit amet, consectetur adipisicing elit"
	words := []impl.Item{textItem("asdf"), textItem("qwer"), textItem("zxcv")}
	three := "8461736466" + "8471776572" + "847a786376"
	for _, form := range []struct {
		x       impl.Item
		figures string
	}{
		{impl.Item{}, "80"},
		{textItem("\x00"), "00"},
		{textItem("\x01"), "01"},
		{textItem("\x7f"), "7f"},
		{textItem("\x80"), "8180"},
		{textItem("\x81"), "8181"},
		{textItem("\xff"), "81ff"},
		{textItem("\x00\x00"), "820000"},
		{textItem("\x04\x00"), "820400"},
		{textItem("dog"), "83646f67"},
		{textItem(lorem[:55]), "b7" + fmt.Sprintf("%x", lorem[:55])},
		{textItem(lorem), "b838" + fmt.Sprintf("%x", lorem)},
		{textItem(strings.Repeat("a", 255)), "b8ff" + strings.Repeat("61", 255)},
		{textItem(strings.Repeat("a", 256)), "b90100" + strings.Repeat("61", 256)},
		{textItem(strings.Repeat("a", 600)), "b90258" + strings.Repeat("61", 600)},
		{listItem(), "c0"},
		{listItem(textItem("")), "c180"},
		{listItem(textItem("\x00")), "c100"},
		{listItem(textItem("\x80")), "c28180"},
		{listItem(listItem()), "c1c0"},
		{nested(3, listItem()), "c3c2c1c0"},
		{listItem(textItem("cat"), textItem("dog")), "c88363617483646f67"},
		{listItem(listItem(), nested(1, listItem()), listItem(listItem(), nested(1, listItem()))), "c7c0c1c0c3c0c1c0"},
		{listItem(textItem("zw"), listItem(textItem("\x04")), textItem("\x01")), "c6827a77c10401"},
		{listItem(slices.Concat(words, words, words, words[:2])...), "f7" + three + three + three + three[:20]},
		{listItem(slices.Concat(words, words, words, words)...), "f83c" + three + three + three + three},
		{listItem(listItem(words...), listItem(words...), listItem(words...), listItem(words...)), "f840" + strings.Repeat("cf"+three, 4)},
		{listItem(textItem(strings.Repeat("a", 252)), textItem("b")), "f8ff" + "b8fc" + strings.Repeat("61", 252) + "62"},
		{listItem(textItem(strings.Repeat("a", 252)), textItem("b"), textItem("c")), "f90100" + "b8fc" + strings.Repeat("61", 252) + "6263"},
		{listItem(textItem(strings.Repeat("a", 600)), textItem(strings.Repeat("b", 291))), "f90381" + "b90258" + strings.Repeat("61", 600) + "b90123" + strings.Repeat("62", 291)},
	} {
		text := fromFigures(t, form.figures)
		if got, ok := impl.ItemText(form.x); got != text || !ok || !impl.ItemOk(form.x) {
			t.Errorf("ItemText(%s) = %x, %v, ItemOk %v, want %s, true, true", itemTold(form.x), got, ok, impl.ItemOk(form.x), form.figures)
		}
		if got, ok := impl.ReadItem(text); !ok || !wordedSame(got, form.x) {
			t.Errorf("ReadItem(%s) = %s, %v, want %s, true", form.figures, itemTold(got), ok, itemTold(form.x))
		}
		if wordedItemText(form.x) != text {
			t.Errorf("the words make %x of %s, want %s", wordedItemText(form.x), itemTold(form.x), form.figures)
		}
	}
}

// The promise: items come back from their texts.
func TestItemsComeBack(t *testing.T) {
	written := 0
	for _, x := range manyItems() {
		checkItem(t, x)
		checkItem(t, listItem(x))
		checkItem(t, listItem(textItem(""), x, x))
		if !impl.ItemOk(x) {
			t.Errorf("ItemOk(%s) is false", itemTold(x))
		}
		if _, ok := impl.ItemText(x); ok {
			written++
		}
	}
	if written < 400 {
		t.Errorf("only %d items are written", written)
	}
}

// The promise: one way alone. Two items that are not the same have two texts.
func TestItemsHaveTextsOfTheirOwn(t *testing.T) {
	byText := map[string]impl.Item{}
	for _, x := range manyItems() {
		text, ok := impl.ItemText(x)
		if other, met := byText[text]; ok && met && !wordedSame(other, x) {
			t.Errorf("%s and %s have one text %.80q", itemTold(other), itemTold(x), text)
		}
		if ok {
			byText[text] = x
		}
	}
}

func TestTextsOfEachSizeAsItems(t *testing.T) {
	for size := range 700 {
		for _, text := range fillings(size) {
			checkItem(t, textItem(text))
			checkItem(t, listItem(textItem("a"), textItem(text)))
		}
		if got := impl.ItemOk(textItem(patterned(size))); got != (size <= 600) {
			t.Errorf("ItemOk of a Text of %d bytes is %v", size, got)
		}
	}
	for _, size := range []int{855, 856, 857, 897, 898, 899, 900, 901, 1000, 65535, 65536, 65536 + 55, 65536 + 600} {
		noItem(t, textItem(patterned(size)))
		noItem(t, listItem(textItem(patterned(size))))
	}
}

func TestTextsOfOneByteAsItems(t *testing.T) {
	for b := range 256 {
		text, want := string([]byte{byte(b)}), string([]byte{byte(b)})
		if b > 127 {
			want = "\x81" + text
		} else {
			noReadItem(t, "\x81"+text)
			noReadItem(t, "\xc2\x81"+text)
			noReadItem(t, "\xc4\x01\x81"+text+"\x02")
			noReadItem(t, "\xb8\x01"+text)
			noReadItem(t, "\xb9\x00\x01"+text)
		}
		if got, ok := impl.ItemText(textItem(text)); got != want || !ok {
			t.Errorf("ItemText of the byte %d = %q, %v, want %q, true", b, got, ok, want)
		}
		for lists := range 5 {
			checkItem(t, nested(lists, textItem(text)))
		}
		checkItem(t, textItem(text+text))
		checkItem(t, textItem(text+"\x00"))
		checkItem(t, textItem("\x00"+text))
		checkItem(t, listItem(textItem(text), textItem(text), listItem(textItem(text))))
	}
}

func TestListsOfEachCount(t *testing.T) {
	for count := range 40 {
		for _, kids := range [][]impl.Item{textKids(count), make([]impl.Item, count), slices.Repeat([]impl.Item{listItem()}, count), slices.Repeat([]impl.Item{textItem("\x80")}, count), slices.Repeat([]impl.Item{textItem(patterned(56))}, count), slices.Repeat([]impl.Item{listItem(textKids(17)...)}, count)} {
			x := listItem(kids...)
			checkItem(t, x)
			for lists := 1; lists < 4; lists++ {
				checkItem(t, nested(lists, x))
			}
			checkItem(t, listItem(textItem("a"), x))
			checkItem(t, listItem(x, textItem("a")))
			if got := impl.ItemOk(x); got != (count <= 17) {
				t.Errorf("ItemOk of a List of %d Kids is %v", count, got)
			}
		}
	}
}

// Each number of bytes that Kids may come to, by long ones, by many, and by Lists.
func TestKidsThatComeToEachSize(t *testing.T) {
	for total := range 920 {
		lists := [][]impl.Item{kidsOf(total)}
		if total >= 14 {
			lists = append(lists, append(textKids(14), kidsOf(total-14)...), append(kidsOf(total-14), make([]impl.Item, 14)...))
		}
		if total > 0 && total <= 56 {
			lists = append(lists, []impl.Item{listItem(kidsOf(total - 1)...)})
		}
		for _, kids := range lists {
			if len(kids) > 17 || len(wordedKidTexts(kids)) != total {
				t.Fatalf("%d Kids come to %d bytes, want %d", len(kids), len(wordedKidTexts(kids)), total)
			}
			checkItem(t, listItem(kids...))
			checkItem(t, nested(2, listItem(kids...)))
		}
	}
}

func TestListsThatComeToMaxBytes(t *testing.T) {
	for total := 870; total < 930; total++ {
		for lists := 1; lists <= 4; lists++ {
			x := nested(lists-1, listItem(kidsOf(total)...))
			text, ok := impl.ItemText(x)
			if fits := total+3*lists <= 900; ok != fits || fits && len(text) != total+3*lists || !fits && text != "" {
				t.Errorf("%d Lists round %d bytes have a text of %d bytes, %v", lists, total, len(text), ok)
			}
			if !impl.ItemOk(x) {
				t.Errorf("ItemOk of %d Lists round %d bytes is false", lists, total)
			}
			checkItem(t, x)
			if checkReadItem(t, wordedItemText(x)) != ok {
				t.Errorf("ReadItem of a text of %d bytes is not %v", total+3*lists, ok)
			}
		}
	}
}

// What is right may have far more bytes than are written, also so many that fewer bytes would tell them.
func TestListsOfFarTooManyBytes(t *testing.T) {
	wide := impl.Item{}
	for range 4 {
		wide = listItem(slices.Repeat([]impl.Item{wide}, 17)...)
		checkItem(t, wide)
	}
	heavy := textItem(patterned(600))
	for range 4 {
		heavy = listItem(slices.Repeat([]impl.Item{heavy}, 17)...)
		if !impl.ItemOk(heavy) {
			t.Errorf("ItemOk of 17 Kids each in %d Lists is false", listsDeep(heavy))
		}
		noItemText(t, heavy)
	}
	for _, total := range []int{1000, 1023, 1024, 1500, 4096, 5000, 9000} {
		checkItem(t, listItem(kidsOf(total)...))
	}
	full := listItem(slices.Repeat([]impl.Item{textItem(patterned(600))}, 17)...)
	size := len(wordedItemText(full))
	for _, behind := range []int{0, 1, 2, 10, 55, 56, 200, 255, 256, 300, 600} {
		x := listItem(append(slices.Repeat([]impl.Item{full}, 6), kidsOf(65536+behind-6*size)...)...)
		if got := len(wordedKidTexts(x.Kids)); got != 65536+behind {
			t.Fatalf("Kids come to %d bytes, want %d", got, 65536+behind)
		}
		checkItem(t, x)
	}
}

func TestNestedItems(t *testing.T) {
	for _, kid := range []impl.Item{textItem(""), textItem("a"), textItem("\x80"), textItem(patterned(56)), listItem(textItem("a"), textItem("b"))} {
		for lists := range 12 {
			x := nested(lists, kid)
			checkItem(t, x)
			if got := impl.ItemOk(x); got != (listsDeep(x) <= 4) {
				t.Errorf("ItemOk of %d Lists in one another is %v", listsDeep(x), got)
			}
			checkReadItem(t, wordedItemText(x))
			for place := range 17 {
				kids := textKids(17)
				kids[place] = x
				checkItem(t, listItem(kids...))
				checkItem(t, nested(2, listItem(kids...)))
				checkReadItem(t, wordedItemText(nested(2, listItem(kids...))))
			}
		}
	}
	noItem(t, nested(5, textItem("a")))
	noItem(t, nested(4, listItem()))
	noReadItem(t, "\xc4\xc3\xc2\xc1\xc0")
	noReadItem(t, "\xc5\xc4\xc3\xc2\xc1\x01")
	noReadItem(t, "\xc5\x01\xc3\xc2\xc1\xc0")
	noReadItem(t, "\xc6\xc4\xc3\xc2\xc1\xc0\x01")
}

// Lists that stand beside one another do not count as in one another.
func TestNestedItemsSideBySide(t *testing.T) {
	for _, lists := range []int{1, 2, 3} {
		x := listItem(slices.Repeat([]impl.Item{nested(lists, textItem("a"))}, 17)...)
		checkItem(t, x)
		if !impl.ItemOk(x) {
			t.Errorf("ItemOk of 17 times %d Lists is false", lists)
		}
	}
}

func TestItemsThatAreNotRight(t *testing.T) {
	for _, wrong := range wrongItems() {
		noItem(t, wrong)
		for lists := range 5 {
			noItem(t, nested(lists, wrong))
		}
		for place := range 17 {
			kids := textKids(17)
			kids[place] = wrong
			noItem(t, listItem(kids...))
			noItem(t, nested(3, listItem(kids...)))
		}
		checkItem(t, wrong)
	}
}

// A List has no Text and a Text no Kids, also where these are the wrong way round in an item that is right otherwise.
func TestItemsOfBothKinds(t *testing.T) {
	for _, x := range manyItems() {
		turned := x
		turned.List = !x.List
		checkItem(t, turned)
		checkItem(t, listItem(turned))
		for _, text := range []string{"a", "\x00", "\x80", patterned(60)} {
			noItem(t, impl.Item{List: true, Text: text, Kids: x.Kids})
			noItem(t, listItem(textItem("a"), impl.Item{List: true, Text: text, Kids: x.Kids}))
			noItem(t, impl.Item{Text: text, Kids: []impl.Item{x}})
			noItem(t, listItem(impl.Item{Text: text, Kids: []impl.Item{x}}, textItem("a")))
		}
		noItem(t, impl.Item{Kids: []impl.Item{x}})
	}
}

// An empty list and nil are the same value in all places.
func TestItemsOfEmptyLists(t *testing.T) {
	for _, none := range [][]impl.Item{nil, {}, make([]impl.Item, 0, 3), textKids(3)[:0]} {
		for _, text := range []string{"", "a", "\x80", patterned(600)} {
			x := impl.Item{Text: text, Kids: none}
			checkItem(t, x)
			checkItem(t, listItem(x, textItem("b")))
			checkSameItem(t, x, textItem(text), true)
			checkSameItem(t, listItem(x), listItem(textItem(text)), true)
			if !impl.ItemOk(x) {
				t.Errorf("ItemOk of a Text with an empty list of Kids is false")
			}
		}
		x := impl.Item{List: true, Kids: none}
		checkItem(t, x)
		checkItem(t, nested(3, x))
		checkSameItem(t, x, impl.Item{List: true}, true)
		checkSameItem(t, nested(3, x), nested(3, impl.Item{List: true}), true)
		checkSameItem(t, x, impl.Item{Kids: none}, false)
		noItem(t, nested(4, x))
	}
}

// Every text of one and of two bytes, and many of three: what is taken is told by the words, and no other text is.
func TestReadItemOfShortTexts(t *testing.T) {
	noReadItem(t, "")
	taken := 0
	thirds := []byte{0, 1, 2, 55, 56, 127, 128, 129, 130, 183, 184, 185, 191, 192, 193, 194, 247, 248, 255}
	for first := range 256 {
		one := string([]byte{byte(first)})
		if checkReadItem(t, one) {
			taken++
		}
		for second := range 256 {
			two := one + string([]byte{byte(second)})
			if checkReadItem(t, two) {
				taken++
			}
			for _, third := range thirds {
				checkReadItem(t, two+string([]byte{third}))
			}
		}
	}
	// Of one byte: 128 texts, the empty text, the empty List. Of two: 128 texts, and Lists of each of those of one byte.
	if taken != 130+128+130 {
		t.Errorf("%d texts of one and two bytes are taken, want %d", taken, 130+128+130)
	}
}

// longForms are the texts of a body of that length, its length in so many bytes, noughts ahead of it.
func longForms(long int, body string) []string {
	list := []string{}
	for bytes := 1; bytes <= 8; bytes++ {
		size := wordedNumber(len(body))
		if len(size) > bytes {
			continue
		}
		size = strings.Repeat("\x00", bytes-len(size)) + size
		list = append(list, string([]byte{byte(long + bytes)})+size+body)
	}
	return list
}

func TestReadItemOfLongerForms(t *testing.T) {
	for size := range 605 {
		for _, filling := range []string{patterned(size), strings.Repeat("\xff", size)} {
			for _, form := range longForms(183, filling) {
				right := size > 55 && size <= 600 && form == wordedItemText(textItem(filling))
				if checkReadItem(t, form) != right {
					t.Errorf("a text of %d bytes is read as %.10q: not %v", size, form, right)
				}
				if !right {
					noReadItem(t, wordedHeaded(192, 247, form))
					noReadItem(t, wordedHeaded(192, 247, "a"+form+"b"))
				}
			}
		}
	}
	for total := range 910 {
		body := wordedKidTexts(kidsOf(total))
		for _, form := range longForms(247, body) {
			right := total > 55 && total <= 897 && form == wordedItemText(listItem(kidsOf(total)...))
			if checkReadItem(t, form) != right {
				t.Errorf("a List of %d bytes is read as %.10q: not %v", total, form, right)
			}
			if !right {
				noReadItem(t, wordedHeaded(192, 247, form))
			}
		}
	}
}

// A head tells one length, and there are fewer or more bytes behind it.
func TestReadItemOfOtherLengths(t *testing.T) {
	for told := range 60 {
		head := wordedHeaded(128, 183, strings.Repeat("\x80", told))
		head = head[:len(head)-told]
		list := wordedHeaded(192, 247, strings.Repeat("a", told))
		list = list[:len(list)-told]
		for size := range 64 {
			if size != told {
				noReadItem(t, head+strings.Repeat("\x80", size))
				noReadItem(t, list+strings.Repeat("a", size))
			}
			checkReadItem(t, head+strings.Repeat("\x80", size))
			checkReadItem(t, list+strings.Repeat("a", size))
		}
	}
	for _, x := range manyItems() {
		text := wordedItemText(x)
		for b := range 256 {
			noReadItem(t, text+string([]byte{byte(b)}))
		}
		for _, more := range []string{text, "\x00\x00", patterned(31), patterned(900), patterned(65536)} {
			noReadItem(t, text+more)
		}
		for size := range min(len(text), 900) {
			noReadItem(t, text[:size])
		}
	}
}

// manyBytes are numbers of eight bytes: about the ends of ints and of what bytes tell, and those that a length behind them would bring round.
func manyBytes() []string {
	list := []string{}
	for _, n := range []uint64{1 << 62, math.MaxInt64, math.MaxUint64, 1 << 32, 1 << 56} {
		for less := range uint64(30) {
			for _, m := range []uint64{n - less, n + less, -less - 1, n | less, n - less*100} {
				list = append(list, string(new(big.Int).SetUint64(m).FillBytes(make([]byte, 8))))
			}
		}
	}
	return list
}

func TestReadItemOfLengthsThatPassEveryInt(t *testing.T) {
	for _, size := range manyBytes() {
		for _, head := range []string{"\xbf", "\xff"} {
			for _, body := range []string{"", "a", strings.Repeat("a", 17), patterned(56), patterned(600), patterned(880)} {
				noReadItem(t, head+size+body)
				noReadItem(t, wordedHeaded(192, 247, head+size+body))
			}
			for bytes := range 8 {
				noReadItem(t, head+size[:bytes])
			}
		}
		for bytes := 1; bytes < 8; bytes++ {
			for _, long := range []int{183, 247} {
				checkReadItem(t, string([]byte{byte(long + bytes)})+size[8-bytes:]+strings.Repeat("a", 300))
				checkReadItem(t, string([]byte{byte(long + bytes)})+size[:bytes]+strings.Repeat("a", 300))
				checkReadItem(t, string([]byte{byte(long + bytes)})+size[:bytes])
			}
		}
	}
	// These lengths are the ones of the bodies, but for what is above 16, 32 or 64 bits.
	body := patterned(300)
	for _, above := range []string{"\x01", "\x01\x00\x00", "\x01\x00\x00\x00\x00", "\x80\x00\x00\x00\x00\x00", "\xff\xff\xff\xff\xff\xff"} {
		size := above + "\x01\x2c"
		noReadItem(t, string([]byte{byte(183 + len(size))})+size+body)
		noReadItem(t, string([]byte{byte(247 + len(size))})+size+strings.Repeat("a", 300))
	}
}

func TestReadItemOfKidsThatPassTheEnd(t *testing.T) {
	for _, text := range []string{"\xc1\x81", "\xc1\x82a", "\xc1\xc1", "\xc1\xc1a", "\xc2\xc2a", "\xc2\xc2ab", "\xc2\x83a", "\xc1\x81\x80", "\xc2a\x81\x80", "\xc2a\xb8", "\xc1\xb8\x38" + patterned(56), "\xc2\xb8\x38" + patterned(56), "\xc1\xf8", "\xc2\xf8\xff", "\xc1\xbf", "\xc1\xff", "\xc3\xc1\x81\x80", "\xc3\xc1\xc1\xc0", "\xc4\xc1\x83abc"} {
		noReadItem(t, text)
		noReadItem(t, wordedHeaded(192, 247, text))
		noReadItem(t, wordedHeaded(192, 247, "a"+text))
	}
	for _, x := range manyItems() {
		body := wordedItemText(x)
		if len(body) < 2 || len(body) > 850 {
			continue
		}
		for _, cut := range []int{1, len(body) / 2, len(body) - 1} {
			short := wordedHeaded(192, 247, body[:cut])
			noReadItem(t, short)
			noReadItem(t, short+body[cut:])
			noReadItem(t, wordedHeaded(192, 247, short+body[cut:]))
			noReadItem(t, wordedHeaded(192, 247, "a"+short))
		}
	}
}

func TestReadItemOfTooMuch(t *testing.T) {
	for _, count := range []int{18, 19, 20, 34, 55, 56, 100, 255, 256, 272, 273, 600, 897} {
		for _, kid := range []string{"a", "\x80", "\xc0", "\x00"} {
			text := wordedHeaded(192, 247, strings.Repeat(kid, count))
			noReadItem(t, text)
			noReadItem(t, wordedHeaded(192, 247, text))
			noReadItem(t, wordedHeaded(192, 247, "a"+text+"b"))
		}
	}
	for _, size := range []int{601, 602, 640, 767, 768, 856, 857, 890, 897, 898, 900, 901, 1000, 65535, 65536, 66000, 1 << 24} {
		noReadItem(t, wordedItemText(textItem(strings.Repeat("a", size))))
		noReadItem(t, wordedItemText(listItem(textItem(strings.Repeat("a", size)))))
		noReadItem(t, strings.Repeat("a", size))
		noReadItem(t, strings.Repeat("\xc0", size))
		noReadItem(t, strings.Repeat("\xc1", size))
		noReadItem(t, strings.Repeat("\xf8", size))
		noReadItem(t, strings.Repeat("\xff", size))
	}
	for total := 890; total < 1500; total++ {
		text := wordedItemText(listItem(kidsOf(total)...))
		if checkReadItem(t, text) != (total <= 897) {
			t.Errorf("ReadItem of a List of %d bytes is not %v", total, total <= 897)
		}
	}
	for lists := 5; lists < 896; lists++ {
		text := "\xc0"
		for len(text) < lists {
			text = wordedHeaded(192, 247, text)
		}
		noReadItem(t, text)
	}
}

// deepText is a List in a List .., so many, each in the one way; it is written from its end.
func deepText(lists int) string {
	turned := []byte{}
	for range lists {
		size := len(turned)
		if size <= 55 {
			turned = append(turned, byte(192+size))
			continue
		}
		bytes := 0
		for rest := size; rest > 0; rest /= 256 {
			turned = append(turned, byte(rest%256))
			bytes++
		}
		turned = append(turned, byte(247+bytes))
	}
	slices.Reverse(turned)
	return string(turned)
}

// Every call ends, also of a text whose Lists stand so deep in one another that none could go into all of them.
func TestReadItemOfListsFarTooDeep(t *testing.T) {
	for _, lists := range []int{1, 2, 3, 4} {
		if text := deepText(lists); text != wordedItemText(nested(lists-1, listItem())) || !checkReadItem(t, text) {
			t.Errorf("%q is not read as %d Lists", text, lists)
		}
	}
	for _, lists := range []int{5, 6, 56, 57, 58, 100, 300, 1000, 70000, 6000000} {
		noReadItem(t, deepText(lists))
	}
}

// What is read of a text with any byte turned, taken out or put in has just that text.
func TestReadItemTakesTheTextsOfItemsAlone(t *testing.T) {
	for _, x := range manyItems() {
		text := wordedItemText(x)
		for place := range len(text) {
			if place >= 30 && place < len(text)-5 {
				continue
			}
			for bit := range 8 {
				turned := []byte(text)
				turned[place] ^= 1 << bit
				checkReadItem(t, string(turned))
			}
			for _, b := range []byte{0, 1, 55, 128, 129, 184, 192, 193, 248} {
				checkReadItem(t, text[:place]+string([]byte{b})+text[place:])
				checkReadItem(t, text[:place]+string([]byte{b})+text[place+1:])
			}
			checkReadItem(t, text[:place]+text[place+1:])
			checkReadItem(t, text[place:])
			checkReadItem(t, text[place:]+text[:place])
		}
	}
}

// An item that is read of a text by chance has just that text.
func TestReadItemOfScatteredTexts(t *testing.T) {
	state, taken := uint64(277), 0
	for range 200000 {
		state = state*6364136223846793005 + 1442695040888963407
		bytes := []byte{}
		for i := range int(state>>60) + 1 {
			drawn := byte(state >> (8 + 3*i))
			// Bytes that begin no item are rare, so that many texts are one.
			if drawn%4 > 0 {
				drawn = []byte{192, 193, 194, 195, 196, 197, 198, 128, 129, 130, 1, 97, 127, 0}[drawn%14]
			}
			bytes = append(bytes, drawn)
		}
		for _, text := range []string{string(bytes), wordedHeaded(192, 247, string(bytes))} {
			if checkReadItem(t, text) {
				taken++
			}
		}
	}
	if taken < 10000 {
		t.Errorf("only %d texts are taken", taken)
	}
}

func TestSameItemOfEachTwo(t *testing.T) {
	list := append(wrongItems(), manyItems()...)
	for i, a := range list {
		for _, b := range list[i:] {
			if got, want := impl.SameItem(a, b), wordedSame(a, b); got != want || impl.SameItem(b, a) != want {
				t.Errorf("SameItem(%s, %s) = %v, turned round %v, want %v", itemTold(a), itemTold(b), got, impl.SameItem(b, a), want)
			}
		}
	}
}

func itemCopy(x impl.Item) impl.Item {
	kids := make([]impl.Item, len(x.Kids))
	for i, kid := range x.Kids {
		kids[i] = itemCopy(kid)
	}
	return impl.Item{List: x.List, Text: strings.Clone(x.Text), Kids: kids}
}

// placesIn are pointers to the item and to all that stand in it.
func placesIn(x *impl.Item) []*impl.Item {
	list := []*impl.Item{x}
	for i := range x.Kids {
		list = append(list, placesIn(&x.Kids[i])...)
	}
	return list
}

// otherItems are an item changed in one thing.
func otherItems(x impl.Item) []impl.Item {
	list := []impl.Item{
		{List: !x.List, Text: x.Text, Kids: x.Kids},
		{List: x.List, Text: x.Text + "\x00", Kids: x.Kids},
		{List: x.List, Text: "\x00" + x.Text, Kids: append(slices.Clone(x.Kids), impl.Item{})},
		{List: x.List, Text: x.Text, Kids: append([]impl.Item{listItem()}, x.Kids...)},
		{List: x.List, Text: x.Text, Kids: append(slices.Clone(x.Kids), impl.Item{})},
	}
	if x.Text != "" {
		list = append(list, impl.Item{List: x.List, Text: x.Text[:len(x.Text)-1], Kids: x.Kids}, impl.Item{List: x.List, Kids: x.Kids})
	}
	if len(x.Kids) > 0 {
		list = append(list, impl.Item{List: x.List, Text: x.Text, Kids: x.Kids[1:]}, impl.Item{List: x.List, Text: x.Text, Kids: x.Kids[:len(x.Kids)-1]}, impl.Item{List: x.List, Text: x.Text})
	}
	return list
}

// A change at any place of an item makes it another one.
func TestSameItemSeesEachPlace(t *testing.T) {
	state := uint64(281)
	list := []impl.Item{listItem(textKids(17)...), nested(4, textItem("cat")), nested(7, textItem("cat")), {Text: "a", Kids: textKids(3)}, {List: true, Text: "a", Kids: []impl.Item{{Text: "b", Kids: textKids(2)}, nested(2, textItem("c"))}}}
	for range 40 {
		list = append(list, scatteredItem(&state, 4))
	}
	for _, x := range list {
		checkSameItem(t, x, itemCopy(x), true)
		checkSameItem(t, x, x, true)
		for place := range placesIn(&x) {
			changed := itemCopy(x)
			at := placesIn(&changed)[place]
			was := *at
			for _, other := range otherItems(was) {
				*at = other
				checkSameItem(t, x, changed, false)
			}
			*at = was
			checkSameItem(t, x, changed, true)
		}
	}
}

func TestSameItemSeesTheOrder(t *testing.T) {
	a, b, c := textItem("a"), listItem(textItem("b")), textItem("")
	checkSameItem(t, listItem(a, b), listItem(b, a), false)
	checkSameItem(t, listItem(a, b, c), listItem(a, c, b), false)
	checkSameItem(t, listItem(a, a, b), listItem(a, b, b), false)
	checkSameItem(t, listItem(listItem(a), c), listItem(c, listItem(a)), false)
	checkSameItem(t, listItem(listItem(a, b)), listItem(listItem(a), b), false)
	checkSameItem(t, listItem(a, listItem()), listItem(a, textItem("")), false)
	checkSameItem(t, listItem(), textItem(""), false)
	checkSameItem(t, textItem("a"), listItem(textItem("a")), false)
	checkSameItem(t, textItem("\x00"), textItem(""), false)
}

// Items of one memory may still be unlike, where a List of it is shorter.
func TestSameItemOfSharedKids(t *testing.T) {
	kids := textKids(9)
	for i := range 10 {
		for j := range 10 {
			checkSameItem(t, listItem(kids[:i]...), listItem(kids[:j]...), i == j)
			checkSameItem(t, listItem(kids[i:]...), listItem(kids[j:]...), i == j)
			checkSameItem(t, listItem(listItem(kids[:i]...), listItem(kids[:j]...)), listItem(listItem(kids[:i]...), listItem(kids[:i]...)), i == j)
			checkSameItem(t, listItem(listItem(kids[:i]...), listItem(kids[i:]...)), listItem(listItem(kids[:j]...), listItem(kids[j:]...)), i == j)
		}
	}
	shared := listItem(textItem("a"), textItem("b"))
	checkSameItem(t, listItem(shared, shared), listItem(shared, listItem(textItem("a"), textItem("b"))), true)
	checkSameItem(t, listItem(shared, shared), listItem(shared, listItem(textItem("a"), textItem("c"))), false)
	checkSameItem(t, listItem(shared, shared), listItem(listItem(textItem("a"), textItem("c")), shared), false)
	same := slices.Repeat([]impl.Item{textItem("x")}, 4)
	checkSameItem(t, listItem(same[:2]...), listItem(same[2:]...), true)
	checkSameItem(t, listItem(same[:3]...), listItem(same[1:]...), true)
}

// ring is an item that stands in itself, that many Lists round; in each of them the text stands beside it.
func ring(lists int, text string) impl.Item {
	places := make([][]impl.Item, lists)
	for i := range places {
		places[i] = make([]impl.Item, 2)
	}
	for i, kids := range places {
		kids[0], kids[1] = textItem(text), impl.Item{List: true, Kids: places[(i+1)%lists]}
	}
	return impl.Item{List: true, Kids: places[0]}
}

// Every call ends, also where an item stands in itself.
func TestItemsThatStandInThemselves(t *testing.T) {
	for _, lists := range []int{1, 2, 3, 4, 5, 30} {
		x := ring(lists, "a")
		if text, ok := impl.ItemText(x); impl.ItemOk(x) || text != "" || ok {
			t.Errorf("an item that stands in itself is right")
		}
		for _, other := range []int{1, 2, 3, 5, 7} {
			if !impl.SameItem(x, ring(other, "a")) || impl.SameItem(x, ring(other, "b")) || impl.SameItem(ring(other, "b"), x) {
				t.Errorf("SameItem of items that stand in themselves, %d and %d Lists round", lists, other)
			}
		}
		odd := ring(lists, "a")
		at := &odd
		for range lists - 1 {
			at = &at.Kids[1]
		}
		at.Kids[0].Text = "odd"
		if impl.SameItem(x, odd) || impl.SameItem(odd, x) || !impl.SameItem(odd, odd) {
			t.Errorf("SameItem does not see the last of %d Lists", lists)
		}
		if impl.SameItem(x, listItem(textItem("a"), listItem())) || impl.SameItem(listItem(textItem("a"), listItem()), x) {
			t.Error("SameItem takes an item that stands in itself for one that does not")
		}
	}
	alone := make([]impl.Item, 1)
	alone[0] = impl.Item{Kids: alone}
	if impl.ItemOk(alone[0]) || !impl.SameItem(alone[0], alone[0]) {
		t.Error("a Text that has itself as a Kid is right, or another one than itself")
	}
}

// spread is a List of 17 times a List of 17 times .. a text, so many Lists, which share their memory.
func spread(lists int, text string) impl.Item {
	x := textItem(text)
	for range lists {
		x = listItem(slices.Repeat([]impl.Item{x}, 17)...)
	}
	return x
}

func TestItemsThatAreFarTooLarge(t *testing.T) {
	for _, lists := range []int{5, 6, 12, 100} {
		x := spread(lists, "a")
		if text, ok := impl.ItemText(x); impl.ItemOk(x) || text != "" || ok {
			t.Errorf("%d Lists in one another are right", lists)
		}
		if !impl.SameItem(x, spread(lists, "a")) || impl.SameItem(x, spread(lists, "b")) || impl.SameItem(x, spread(lists+1, "a")) {
			t.Errorf("SameItem of 17 Kids each in %d Lists", lists)
		}
	}
	deep, other := nested(100000, textItem("a")), nested(100000, textItem("b"))
	if impl.ItemOk(deep) || !impl.SameItem(deep, nested(100000, textItem("a"))) || impl.SameItem(deep, other) || impl.SameItem(deep, deep.Kids[0]) {
		t.Error("SameItem of 100000 Lists in one another")
	}
	wide := listItem(make([]impl.Item, 70000)...)
	last := itemCopy(wide)
	last.Kids[69999].Text = "a"
	if impl.ItemOk(wide) || !impl.SameItem(wide, itemCopy(wide)) || impl.SameItem(wide, last) {
		t.Error("SameItem of 70000 Kids")
	}
}

// numEdges are numbers at which a text gets longer, those that the document names, and both ends of an int.
func numEdges() []int {
	list := []int{-1, 0, 1, 2, 127, 128, 255, 256, 257, 1024, 65535, 65536, impl.MaxNumber - 1, impl.MaxNumber, impl.MaxNumber + 1, math.MaxInt - 1, math.MaxInt, math.MinInt, math.MinInt + 1, -255, -256, -65536}
	for bit := range 63 {
		list = append(list, 1<<bit-1, 1<<bit, 1<<bit+1, -1<<bit, 3<<bit, 255<<bit)
	}
	return list
}

func TestNumForms(t *testing.T) {
	for _, form := range []struct {
		n    int
		text string
	}{
		{0, ""}, {1, "\x01"}, {127, "\x7f"}, {128, "\x80"}, {255, "\xff"}, {256, "\x01\x00"}, {1024, "\x04\x00"}, {65535, "\xff\xff"}, {65536, "\x01\x00\x00"}, {16777216, "\x01\x00\x00\x00"}, {1000000000, "\x3b\x9a\xca\x00"},
	} {
		if text := impl.NumText(form.n); text != form.text {
			t.Errorf("NumText(%d) = %q, want %q", form.n, text, form.text)
		}
		if n, ok := impl.ReadNum(form.text); n != form.n || !ok {
			t.Errorf("ReadNum(%q) = %d, %v, want %d, true", form.text, n, ok, form.n)
		}
	}
	for n, text := range map[int]string{1000000001: "\x3b\x9a\xca\x01", math.MaxInt: "\x7f\xff\xff\xff\xff\xff\xff\xff", 1 << 32: "\x01\x00\x00\x00\x00", -1: "", -128: "", math.MinInt: ""} {
		if got := impl.NumText(n); got != text {
			t.Errorf("NumText(%d) = %q, want %q", n, got, text)
		}
	}
}

// The promise: a number comes back from its text, which is as short as may be.
func TestNumsComeBack(t *testing.T) {
	list := slices.Concat(numEdges(), manyNumbers(), scatteredScalars(283, 20000))
	for n := range 70000 {
		list = append(list, n, impl.MaxNumber-n, impl.MaxNumber+n)
	}
	for _, n := range list {
		text := impl.NumText(n)
		if text != wordedNumber(n) {
			t.Fatalf("NumText(%d) = %q, want %q", n, text, wordedNumber(n))
		}
		back, ok := impl.ReadNum(text)
		switch {
		case n > impl.MaxNumber && (ok || back != 0):
			t.Fatalf("ReadNum(%q) = %d, %v, want 0, false", text, back, ok)
		case n <= impl.MaxNumber && (!ok || back != max(n, 0)):
			t.Fatalf("ReadNum(%q) = %d, %v, want %d, true", text, back, ok, max(n, 0))
		}
	}
}

func TestReadNumOfShortTexts(t *testing.T) {
	checkReadNum(t, "")
	for first := range 256 {
		one := string([]byte{byte(first)})
		checkReadNum(t, one)
		for second := range 256 {
			two := one + string([]byte{byte(second)})
			checkReadNum(t, two)
			for _, third := range []string{"\x00", "\x01", "\x7f", "\x80", "\xff", "\x00\x00", "\xca\x00", "\xca\x01", "\xff\xff", "\x00\x00\x00", "\xca\x00\x00", "\x00\x00\x00\x00\x00\x00"} {
				checkReadNum(t, two+third)
			}
		}
	}
}

// Noughts ahead make none of a number that would come back without them.
func TestReadNumOfLongerForms(t *testing.T) {
	for _, n := range append(numEdges(), manyNumbers()...) {
		text := wordedNumber(n)
		checkReadNum(t, text)
		checkReadNum(t, text+"\x00")
		for noughts := 1; noughts < 12; noughts++ {
			longer := strings.Repeat("\x00", noughts) + text
			if got, ok := impl.ReadNum(longer); got != 0 || ok {
				t.Errorf("ReadNum(%q) = %d, %v, want 0, false", longer, got, ok)
			}
		}
	}
	for size := 1; size < 40; size++ {
		checkReadNum(t, strings.Repeat("\x00", size))
		checkReadNum(t, strings.Repeat("\x01", size))
		checkReadNum(t, strings.Repeat("\xff", size))
		checkReadNum(t, patterned(size)[1:])
	}
}

// What would be a number, if it were cut to fewer bits, is none.
func TestReadNumOfNumbersThatPassTheEnd(t *testing.T) {
	for _, n := range manyNumbers() {
		low := string(big.NewInt(int64(n)).FillBytes(make([]byte, 8)))
		for _, above := range []string{"\x01", "\x80", "\xff", "\x01\x00", "\x01\x00\x00\x00\x00\x00\x00\x00\x00"} {
			for _, text := range []string{above + low, above + low[4:], above + low[3:], above + low[2:], above + low[1:]} {
				if got, ok := impl.ReadNum(text); got != 0 || ok {
					t.Errorf("ReadNum(%q) = %d, %v, want 0, false", text, got, ok)
				}
			}
		}
	}
	for _, text := range manyBytes() {
		for from := range 8 {
			checkReadNum(t, text[from:])
		}
	}
	for _, size := range []int{100, 900, 65536} {
		checkReadNum(t, patterned(size)[1:])
		checkReadNum(t, strings.Repeat("\x00", size)+"\x01")
	}
}

// roomyItem has room behind each list of Kids, in which two items stand.
func roomyItem(x impl.Item) impl.Item {
	room := make([]impl.Item, 0, len(x.Kids)+2)
	for _, kid := range x.Kids {
		room = append(room, roomyItem(kid))
	}
	room = append(room, textItem("room"), listItem(textItem("more room")))
	x.Kids = room[:len(x.Kids)]
	return x
}

// wholeItem is a copy with what stands in the room behind its Kids.
func wholeItem(x impl.Item) impl.Item {
	kids := slices.Clone(x.Kids[:cap(x.Kids)])
	for i := range x.Kids {
		kids[i] = wholeItem(x.Kids[i])
	}
	x.Kids = kids
	return x
}

func TestItemsStayAsTheyWere(t *testing.T) {
	for _, plain := range append(manyItems(), wrongItems()...) {
		x, other := roomyItem(plain), roomyItem(plain)
		before := wholeItem(x)
		checkItem(t, x)
		checkSameItem(t, x, other, true)
		checkSameItem(t, x, plain, true)
		checkSameItem(t, listItem(x), listItem(other), true)
		if impl.ItemOk(x) != impl.ItemOk(plain) {
			t.Errorf("with room behind its Kids ItemOk(%s) is %v", itemTold(plain), impl.ItemOk(x))
		}
		if !reflect.DeepEqual(wholeItem(x), before) || !reflect.DeepEqual(wholeItem(other), before) {
			t.Errorf("%s is %s", itemTold(before), itemTold(wholeItem(x)))
		}
	}
}

// spoilItem writes over all Kids, and the room behind them.
func spoilItem(x impl.Item) {
	for _, kid := range x.Kids {
		spoilItem(kid)
	}
	whole := x.Kids[:cap(x.Kids)]
	for i := range whole {
		whole[i] = impl.Item{List: true, Text: "spoilt"}
	}
}

func TestItemsAreNewMemory(t *testing.T) {
	for _, x := range manyItems() {
		text, ok := impl.ItemText(x)
		if !ok {
			continue
		}
		again, _ := impl.ItemText(x)
		first, _ := impl.ReadItem(text)
		second, _ := impl.ReadItem(text)
		all := append(placesIn(&first), placesIn(&second)...)
		for i, place := range all {
			if shares(place.Text, text) {
				t.Errorf("ReadItem(%.80q) answers memory of its argument", text)
			}
			for _, other := range all[:i] {
				if shares(place.Text, other.Text) || listsShare(place.Kids, other.Kids) {
					t.Errorf("two items of ReadItem(%.80q) share memory", text)
				}
			}
		}
		for _, place := range placesIn(&x) {
			if shares(text, place.Text) {
				t.Errorf("ItemText(%s) answers memory of its argument", itemTold(x))
			}
		}
		if shares(text, again) {
			t.Errorf("two answers of ItemText(%s) share memory", itemTold(x))
		}
		spoilItem(first)
		if third, _ := impl.ReadItem(text); !wordedSame(second, x) || !wordedSame(third, x) {
			t.Errorf("of %s one answer was spoilt with the other", itemTold(x))
		}
	}
	for _, n := range append(numEdges(), manyNumbers()...) {
		if text := impl.NumText(n); shares(text, impl.NumText(n)) {
			t.Errorf("two answers of NumText(%d) share memory", n)
		}
	}
}

// Nothing is kept from one call to another, not of what is refused either.
func TestItemsAreAnsweredAlikeAgain(t *testing.T) {
	for _, x := range manyItems() {
		checkItem(t, x)
		for _, wrong := range wrongItems()[:6] {
			noItem(t, wrong)
		}
		noReadItem(t, "\x81\x05")
		noReadItem(t, "\xc4\xc3\xc2\xc1\xc0")
		checkSameItem(t, x, listItem(x), false)
		checkReadNum(t, "\x00\x01")
		checkItem(t, x)
		checkSameItem(t, x, itemCopy(x), true)
	}
}
