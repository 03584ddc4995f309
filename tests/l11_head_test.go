package tests

import (
	"fmt"
	"math"
	"reflect"
	"strings"
	"testing"

	"loop.example/g00321/impl"
)

// rightSlots are slots up to MaxSlot: each one beside which the text of a slot or its rightness changes, and others between them.
func rightSlots() []int {
	list := []int{0, 1, 2, 126, 127, 128, 129, 254, 255, 256, 257, 9983, 9984, 9998, 9999, 10000}
	for slot := 3; slot < 10000; slot = slot*7/5 + 11 {
		list = append(list, slot)
	}
	return list
}

// wrongSlots are no slots; some of them would be, if they were cut to fewer bits.
func wrongSlots() []int {
	list := []int{10001, 10002, 10111, 10112, 16383, 16384, 65535, 65536, 999999999, 1000000000, 1000000001, -127, -128, -9999, -10000, -10001}
	for _, slot := range []int{0, 1, 5, 127, 128, 9999, 10000} {
		list = append(list, slot+1<<14, slot+1<<16, slot+1<<31, slot+1<<32, slot+1<<62, slot|math.MinInt, -slot-1)
	}
	return append(list, math.MinInt, math.MinInt+1, math.MaxInt-1, math.MaxInt)
}

// wrongDomains are beside those that one byte tells, or would be one of these if they were cut to it.
func wrongDomains() []int {
	list := []int{math.MinInt, math.MinInt + 1, -257, -256, -255, -128, -2, -1, 256, 257, 263, 511, 512, 1000, math.MaxInt - 1, math.MaxInt}
	for _, bit := range []int{8, 9, 15, 16, 31, 32, 62} {
		list = append(list, 7+1<<bit, 255+1<<bit, 7-1<<bit)
	}
	return list
}

// headTexts are texts of DigestSize bytes, some of which begin like the text of a slot.
func headTexts() []string {
	return []string{
		impl.Digest("p"), impl.Digest(""), strings.Repeat("\x00", 32), strings.Repeat("\xff", 32), strings.Repeat("a", 32),
		patterned(32), allBytes()[112:144], "\x80\x01" + strings.Repeat("\x80", 30), strings.Repeat("\xc3(", 16), strings.Repeat("\x90\x4e", 16),
	}
}

// headAt is a right head of this slot whose three texts are different.
func headAt(slot int) impl.Head {
	texts := headTexts()
	return impl.Head{Slot: slot, Parent: texts[slot%10], State: texts[(slot+1)%10], Body: texts[(slot+3)%10]}
}

// manyHeads are right heads of many slots: of unlike texts and of texts that are all alike.
func manyHeads() []impl.Head {
	var list []impl.Head
	for _, slot := range rightSlots() {
		list = append(list, headAt(slot))
		for _, text := range headTexts() {
			list = append(list, impl.Head{Slot: slot, Parent: text, State: text, Body: text})
		}
	}
	return list
}

// withText is the head with another text as its Parent (0), State (1) or Body (2).
func withText(h impl.Head, field int, text string) impl.Head {
	switch field {
	case 0:
		h.Parent = text
	case 1:
		h.State = text
	case 2:
		h.Body = text
	}
	return h
}

// told is a head in a line, cut where a text of it is long.
func told(h impl.Head) string {
	return fmt.Sprintf("{%d %.40q %.40q %.40q}", h.Slot, h.Parent, h.State, h.Body)
}

func textsOf(h impl.Head) []string {
	return []string{h.Parent, h.State, h.Body}
}

// wordedSlot is VarText of a slot: no slot takes more than two bytes.
func wordedSlot(slot int) string {
	if slot < 128 {
		return string([]byte{byte(slot)})
	}
	return string([]byte{byte(slot%128 + 128), byte(slot / 128)})
}

func wordedHeadText(h impl.Head) string {
	return wordedSlot(h.Slot) + h.Parent + h.State + h.Body
}

func wordedHeadRoot(h impl.Head) string {
	return nodeOver([]string{wordedSlot(h.Slot), h.Parent, h.State, h.Body})
}

// slotsByText has each slot at its text.
func slotsByText() map[string]int {
	slots := map[string]int{}
	for slot := range 10001 {
		slots[wordedSlot(slot)] = slot
	}
	return slots
}

// wordedReadHead goes from the end: three texts of 32 bytes, and ahead of them the text of a slot.
func wordedReadHead(slots map[string]int, text string) (impl.Head, bool) {
	if len(text) < 96 {
		return impl.Head{}, false
	}
	ahead, rest := text[:len(text)-96], text[len(text)-96:]
	slot, ok := slots[ahead]
	if !ok {
		return impl.Head{}, false
	}
	return impl.Head{Slot: slot, Parent: rest[:32], State: rest[32:64], Body: rest[64:]}, true
}

func checkReadHead(t *testing.T, slots map[string]int, text string) {
	t.Helper()
	want, right := wordedReadHead(slots, text)
	got, ok := impl.ReadHead(text)
	if got != want || ok != right {
		t.Errorf("ReadHead(%q) = %s, %v, want %s, %v", text, told(got), ok, told(want), right)
	}
	if !ok {
		return
	}
	if back, ok := impl.HeadText(got); back != text || !ok {
		t.Errorf("ReadHead took %q, whose head has the text %q, %v", text, back, ok)
	}
}

func noRead(t *testing.T, text string) {
	t.Helper()
	if h, ok := impl.ReadHead(text); ok || h != (impl.Head{}) {
		t.Errorf("ReadHead(%.200q) = %s, %v, want the zero Head, false", text, told(h), ok)
	}
}

// noHead asks each function for its answer to a head that is not right.
func noHead(t *testing.T, h impl.Head) {
	t.Helper()
	if impl.HeadOk(h) {
		t.Errorf("HeadOk(%s) is true", told(h))
	}
	if text, ok := impl.HeadText(h); text != "" || ok {
		t.Errorf("HeadText(%s) = %q, %v, want nothing, false", told(h), text, ok)
	}
	if root := impl.HeadRoot(h); root != "" {
		t.Errorf("HeadRoot(%s) = %x, want nothing", told(h), root)
	}
	for _, domain := range append(wrongDomains(), 0, 1, 7, 127, 128, 255) {
		if text := impl.SigText(h, domain); text != "" {
			t.Errorf("SigText(%s, %d) = %q, want nothing", told(h), domain, text)
		}
	}
}

// unlike asks for other texts and other roots of two right heads.
func unlike(t *testing.T, a impl.Head, b impl.Head) {
	t.Helper()
	first, firstOk := impl.HeadText(a)
	second, secondOk := impl.HeadText(b)
	if !firstOk || !secondOk || first == second {
		t.Errorf("HeadText of %s and of %s is %q, %v and %q, %v", told(a), told(b), first, firstOk, second, secondOk)
	}
	if impl.HeadRoot(a) == impl.HeadRoot(b) {
		t.Errorf("HeadRoot of %s and of %s is %x", told(a), told(b), impl.HeadRoot(a))
	}
	if impl.SigText(a, 7) == impl.SigText(b, 7) {
		t.Errorf("SigText of %s and of %s is %x", told(a), told(b), impl.SigText(a, 7))
	}
}

func TestTheTypeOfAHead(t *testing.T) {
	if impl.MaxSlot != 10000 {
		t.Errorf("MaxSlot = %d, want 10000", impl.MaxSlot)
	}
	head := reflect.TypeFor[impl.Head]()
	want := []reflect.StructField{{Name: "Slot", Type: reflect.TypeFor[int]()}, {Name: "Parent", Type: reflect.TypeFor[string]()}, {Name: "State", Type: reflect.TypeFor[string]()}, {Name: "Body", Type: reflect.TypeFor[string]()}}
	if head.NumField() != len(want) {
		t.Fatalf("a Head has %d fields, want %d", head.NumField(), len(want))
	}
	for i, field := range want {
		if got := head.Field(i); got.Name != field.Name || got.Type != field.Type || got.Anonymous {
			t.Errorf("field %d of a Head is %v %v, want %v %v", i, got.Name, got.Type, field.Name, field.Type)
		}
	}
}

// The figures were worked out apart from the program.
func TestHeadForms(t *testing.T) {
	letters := impl.Head{Parent: strings.Repeat("p", 32), State: strings.Repeat("s", 32), Body: strings.Repeat("b", 32)}
	noughts := impl.Head{Parent: strings.Repeat("\x00", 32), State: strings.Repeat("\x00", 32), Body: strings.Repeat("\x00", 32)}
	rows := impl.Head{Parent: allBytes()[:32], State: allBytes()[100:132], Body: allBytes()[224:]}
	digests := impl.Head{Parent: impl.Digest("p"), State: impl.Digest("s"), Body: impl.Digest("b")}
	for _, form := range []struct {
		slot  int
		head  impl.Head
		ahead string
		root  string
	}{
		{0, letters, "\x00", "242f088dc7f96f3aec5e65296775bcc77d5d8e536b921cb6316aa187ff67cb23"},
		{0, noughts, "\x00", "dfce33898ff6bd72afffa1e2f3950d619e5696ed6fe064fab1ccb068666265e0"},
		{1, rows, "\x01", "f4bdbb974d8062111a5e45c4b27e09c8bcb21031c0769e36c42755e262c177a4"},
		{127, rows, "\x7f", "520c53e9766c766d9ef361bbd6861d421ee02ecca9028daf0eac67bee3111a6b"},
		{127, letters, "\x7f", "3195aa6fa0c71f627bc4697fa0d9b3e5606a79986f230e91a44acc34f19f4007"},
		{128, letters, "\x80\x01", "a3d795112b17ce02916e3aa2b2d8e2110999f111198d486734426f7370aa3bec"},
		{128, noughts, "\x80\x01", "67ea52d69708ef32df194647775f3c7abaf981ff7f0ea731049ab4b1672d4f69"},
		{129, digests, "\x81\x01", "f7dd644561b18250ad339bea33e3ea3811791582f1cf727c6d66ec55a47854a8"},
		{300, rows, "\xac\x02", "dd2537612c47ddd4743889a0f505ce1eaef8b457a42b39f39839e5cf8362cf57"},
		{9999, letters, "\x8f\x4e", "1d57609652c0c911c6956e0466a946f321ce2f3ffe6d1ad6d316b1943ec38233"},
		{10000, letters, "\x90\x4e", "12bc89b2d899cd088da2b59ab17f43337d8928f1b240b5c28aaef9168a81b4e9"},
		{10000, rows, "\x90\x4e", "f0ea973ddba4427d24a906fc329e9e9f2cd88d9427be4f1bcd27178ac556514c"},
		{10000, digests, "\x90\x4e", "46e8d8d6399fcb908c7d9423fa3786c4e14c2b5335bea92c0fe4d3183ef18e10"},
	} {
		h := form.head
		h.Slot = form.slot
		text, root := form.ahead+h.Parent+h.State+h.Body, fromFigures(t, form.root)
		if got, ok := impl.HeadText(h); got != text || !ok {
			t.Errorf("HeadText(%s) = %q, %v, want %q, true", told(h), got, ok, text)
		}
		if got, ok := impl.ReadHead(text); got != h || !ok {
			t.Errorf("ReadHead(%q) = %s, %v, want %s, true", text, told(got), ok, told(h))
		}
		if got := impl.HeadRoot(h); got != root {
			t.Errorf("HeadRoot(%s) = %x, want %x", told(h), got, root)
		}
		if got := impl.SigText(h, 7); got != "\x07"+root {
			t.Errorf("SigText(%s, 7) = %x, want 07%x", told(h), got, root)
		}
		if wordedHeadText(h) != text || wordedHeadRoot(h) != root {
			t.Errorf("the words make %q and %x of %s, want %q and %x", wordedHeadText(h), wordedHeadRoot(h), told(h), text, root)
		}
	}
}

// The promise: heads come back from their texts.
func TestHeadsComeBack(t *testing.T) {
	list := manyHeads()
	for slot := range 10001 {
		list = append(list, headAt(slot))
	}
	for _, h := range list {
		text, ok := impl.HeadText(h)
		if text != wordedHeadText(h) || !ok || !impl.HeadOk(h) {
			t.Fatalf("HeadText(%s) = %q, %v, HeadOk %v, want %q, true, true", told(h), text, ok, impl.HeadOk(h), wordedHeadText(h))
		}
		back, ok := impl.ReadHead(text)
		if back.Slot != h.Slot || back.Parent != h.Parent || back.State != h.State || back.Body != h.Body || !ok {
			t.Fatalf("ReadHead(%q) = %s, %v, want %s, true", text, told(back), ok, told(h))
		}
	}
}

func TestHeadTextIsOfTheFour(t *testing.T) {
	for _, h := range manyHeads() {
		slot, ok := impl.VarText(h.Slot)
		if want := slot + h.Parent + h.State + h.Body; !ok || wordedHeadText(h) != want {
			t.Fatalf("the words make %q of %s, want %q", wordedHeadText(h), told(h), want)
		}
		if got, ok := impl.HeadText(h); got != slot+h.Parent+h.State+h.Body || !ok {
			t.Errorf("HeadText(%s) = %q, %v, want the four one behind the other", told(h), got, ok)
		}
	}
}

func TestHeadRootIsOfTheFour(t *testing.T) {
	for _, h := range manyHeads() {
		slot, _ := impl.VarText(h.Slot)
		leaves := []string{slot, h.Parent, h.State, h.Body}
		root := impl.HeadRoot(h)
		if root != impl.RootOf(leaves) || root != wordedHeadRoot(h) || len(root) != impl.DigestSize {
			t.Errorf("HeadRoot(%s) = %x, want %x", told(h), root, impl.RootOf(leaves))
		}
		for i, leaf := range leaves {
			if impl.FoldBranch(leaf, i, impl.BranchOf(leaves, i)) != root {
				t.Errorf("leaf %d of %s does not make its root", i, told(h))
			}
		}
	}
}

func TestSigTextByTheWords(t *testing.T) {
	for _, slot := range []int{0, 5, 127, 128, 9999, 10000} {
		h := headAt(slot)
		root := wordedHeadRoot(h)
		for domain := range 256 {
			if got, want := impl.SigText(h, domain), string([]byte{byte(domain)})+root; got != want {
				t.Errorf("SigText(%s, %d) = %x, want %x", told(h), domain, got, want)
			}
		}
		for _, domain := range wrongDomains() {
			if got := impl.SigText(h, domain); got != "" {
				t.Errorf("SigText(%s, %d) = %x, want nothing", told(h), domain, got)
			}
		}
	}
	for _, h := range manyHeads() {
		for _, domain := range []int{0, 7, 127, 128, 255} {
			got := impl.SigText(h, domain)
			if len(got) != 33 || got[0] != byte(domain) || got[1:] != impl.HeadRoot(h) {
				t.Errorf("SigText(%s, %d) = %x, want that byte and %x", told(h), domain, got, impl.HeadRoot(h))
			}
		}
	}
}

func TestHeadsOfOtherTexts(t *testing.T) {
	for _, slot := range []int{0, 127, 128, 10000} {
		h := headAt(slot)
		for field, text := range textsOf(h) {
			for place := range len(text) {
				turned := []byte(text)
				turned[place] ^= 1 << ((place + field) % 8)
				unlike(t, h, withText(h, field, string(turned)))
			}
			for _, other := range textsOf(h) {
				if other != text {
					unlike(t, h, withText(h, field, other))
				}
			}
		}
		unlike(t, h, impl.Head{Slot: slot, Parent: h.State, State: h.Parent, Body: h.Body})
		unlike(t, h, impl.Head{Slot: slot, Parent: h.Parent, State: h.Body, Body: h.State})
		unlike(t, h, impl.Head{Slot: slot, Parent: h.Body, State: h.State, Body: h.Parent})
		unlike(t, h, impl.Head{Slot: slot, Parent: h.State, State: h.Body, Body: h.Parent})
	}
}

func TestHeadsOfOtherSlots(t *testing.T) {
	texts, roots := map[string]int{}, map[string]int{}
	for slot := range 10001 {
		h := headAt(5)
		h.Slot = slot
		text, ok := impl.HeadText(h)
		root := impl.HeadRoot(h)
		if !ok || len(root) != impl.DigestSize {
			t.Fatalf("slot %d: HeadText is %v, HeadRoot has %d bytes", slot, ok, len(root))
		}
		if other, taken := texts[text]; taken {
			t.Errorf("slots %d and %d have one text", other, slot)
		}
		if other, taken := roots[root]; taken {
			t.Errorf("slots %d and %d have one root", other, slot)
		}
		texts[text], roots[root] = slot, slot
	}
}

func TestSlotsThatAreNotRight(t *testing.T) {
	for _, slot := range rightSlots() {
		if !impl.HeadOk(headAt(slot)) {
			t.Errorf("HeadOk of slot %d is false", slot)
		}
	}
	for _, slot := range wrongSlots() {
		h := headAt(5)
		h.Slot = slot
		noHead(t, h)
	}
	for slot := 10001; slot < 20000; slot++ {
		h := headAt(5)
		h.Slot = slot
		if _, ok := impl.HeadText(h); ok || impl.HeadOk(h) {
			t.Errorf("slot %d is taken", slot)
		}
	}
}

func TestTextsThatAreNotRight(t *testing.T) {
	for _, slot := range []int{0, 127, 128, 10000} {
		h := headAt(slot)
		for field := range 3 {
			for _, size := range append(otherSizes(32), 2, 8, 15, 30, 34, 63, 65, 95, 96, 97, 32+256, 32+65536) {
				noHead(t, withText(h, field, patterned(size)))
				noHead(t, withText(h, field, strings.Repeat("\x00", size)))
			}
			for size := range 100 {
				if got := impl.HeadOk(withText(h, field, patterned(size))); got != (size == 32) {
					t.Errorf("HeadOk with %d bytes of field %d is %v", size, field, got)
				}
			}
		}
	}
}

// Where all together are as long as in a right head, each by itself counts.
func TestTextsThatAreRightTogetherAlone(t *testing.T) {
	for _, sizes := range [][3]int{{31, 33, 32}, {33, 31, 32}, {31, 32, 33}, {33, 32, 31}, {32, 31, 33}, {32, 33, 31}, {0, 64, 32}, {64, 0, 32}, {0, 32, 64}, {64, 32, 0}, {32, 0, 64}, {32, 64, 0}, {96, 0, 0}, {0, 96, 0}, {0, 0, 96}, {30, 33, 33}, {48, 48, 0}} {
		for _, slot := range []int{0, 127, 128, 10000} {
			noHead(t, impl.Head{Slot: slot, Parent: patterned(sizes[0]), State: patterned(sizes[1]), Body: patterned(sizes[2])})
		}
	}
	for _, size := range []int{0, 31, 33, 64} {
		noHead(t, impl.Head{Slot: 5, Parent: patterned(size), State: patterned(size), Body: patterned(size)})
		noHead(t, impl.Head{Slot: -1, Parent: patterned(size), State: patterned(size), Body: patterned(size)})
		noHead(t, impl.Head{Slot: 10001, Parent: patterned(size), State: patterned(32), Body: patterned(32)})
	}
	noHead(t, impl.Head{})
	noHead(t, impl.Head{Slot: 10000})
	noHead(t, impl.Head{Slot: math.MaxInt})
	noHead(t, impl.Head{Slot: math.MinInt})
}

func TestReadHeadOfACutText(t *testing.T) {
	for _, slot := range rightSlots() {
		text := wordedHeadText(headAt(slot))
		for size := range len(text) {
			noRead(t, text[:size])
		}
	}
	noRead(t, "")
	for _, h := range manyHeads() {
		text := wordedHeadText(h)
		noRead(t, text[:len(text)-1])
		noRead(t, text[:len(text)-32])
	}
}

func TestReadHeadWithMoreBehind(t *testing.T) {
	for _, slot := range rightSlots() {
		text := wordedHeadText(headAt(slot))
		for b := range 256 {
			noRead(t, text+string([]byte{byte(b)}))
		}
		for _, more := range []string{"\x00\x00", patterned(31), patterned(32), patterned(33), patterned(96), text, patterned(256), patterned(20001), patterned(65536)} {
			noRead(t, text+more)
		}
	}
}

// Without its first byte, or with one more ahead, another slot may stand there, but the length is not that of its head.
func TestReadHeadWithOtherBytesAhead(t *testing.T) {
	slots := slotsByText()
	for _, slot := range rightSlots() {
		text := wordedHeadText(headAt(slot))
		checkReadHead(t, slots, text[1:])
		for b := range 256 {
			checkReadHead(t, slots, string([]byte{byte(b)})+text)
			checkReadHead(t, slots, string([]byte{byte(b)})+text[1:])
		}
	}
}

// Each one or two bytes ahead of the digests: a slot is read where they are its text, and nothing else is.
func TestReadHeadOfEachFormOfASlot(t *testing.T) {
	slots := slotsByText()
	rest := wordedHeadText(headAt(0))[1:]
	taken := 0
	for first := range 256 {
		checkReadHead(t, slots, string([]byte{byte(first)})+rest)
		for second := range 256 {
			text := string([]byte{byte(first), byte(second)}) + rest
			checkReadHead(t, slots, text)
			if _, ok := impl.ReadHead(text); ok {
				taken++
			}
		}
	}
	if taken != 10001-128 {
		t.Errorf("%d forms of two bytes are taken, want %d", taken, 10001-128)
	}
}

func TestReadHeadOfALongerFormOfASlot(t *testing.T) {
	rest := wordedHeadText(headAt(0))[1:]
	for slot := range 10001 {
		form := []byte(wordedSlot(slot))
		form[len(form)-1] |= 128
		for range 9 {
			noRead(t, string(form)+"\x00"+rest)
			form = append(form, 128)
		}
	}
}

func TestReadHeadOfASlotAboveTheGreatest(t *testing.T) {
	rest := wordedHeadText(headAt(0))[1:]
	for slot := 10001; slot < 40000; slot++ {
		number, ok := impl.VarText(slot)
		if !ok {
			t.Fatalf("VarText(%d) is false", slot)
		}
		noRead(t, number+rest)
	}
	for _, slot := range manyNumbers() {
		if number, _ := impl.VarText(slot); slot > 10000 {
			noRead(t, number+rest)
		}
	}
	for _, number := range []string{"\x81\x94\xeb\xdc\x03", "\xff\xff\xff\xff\x0f", "\xff\xff\xff\xff\x7f", "\x80\x80\x80\x80\x80\x01", "\xff\xff\xff\xff\xff\xff\xff\xff\x7f", "\x80\x80\x80\x80\x80\x80\x80\x80\x80\x01", "\xff\xff\xff\xff\xff\xff\xff\xff\xff\x01"} {
		noRead(t, number+rest)
	}
}

// No number ends there at all.
func TestReadHeadWithoutASlot(t *testing.T) {
	for size := range 130 {
		noRead(t, strings.Repeat("\x80", size))
		noRead(t, strings.Repeat("\xff", size))
	}
	rest := wordedHeadText(headAt(0))[1:]
	noRead(t, rest)
	noRead(t, patterned(95))
	noRead(t, patterned(96))
}

// What is read of a text with any byte turned has just that text.
func TestReadHeadTakesTheTextsOfHeadsAlone(t *testing.T) {
	slots := slotsByText()
	for _, slot := range rightSlots() {
		text := wordedHeadText(headAt(slot))
		for place := range len(text) {
			for bit := range 8 {
				turned := []byte(text)
				turned[place] ^= 1 << bit
				checkReadHead(t, slots, string(turned))
			}
			checkReadHead(t, slots, text[:place]+text[place+1:])
			checkReadHead(t, slots, text[:place]+"\x00"+text[place:])
			checkReadHead(t, slots, text[place:]+text[:place])
		}
	}
	for size := range 300 {
		checkReadHead(t, slots, patterned(size))
		checkReadHead(t, slots, strings.Repeat("\x00", size))
		checkReadHead(t, slots, strings.Repeat("\x01", size))
		checkReadHead(t, slots, strings.Repeat("\x7f", size))
	}
}

func TestHeadsAnswerNewTexts(t *testing.T) {
	for _, h := range manyHeads() {
		text, _ := impl.HeadText(h)
		root, signed := impl.HeadRoot(h), impl.SigText(h, 7)
		for _, part := range textsOf(h) {
			if shares(text, part) || shares(root, part) || shares(signed, part) {
				t.Errorf("an answer has memory of the head %s", told(h))
			}
		}
		back, _ := impl.ReadHead(text)
		parts := textsOf(back)
		for i, part := range parts {
			if shares(part, text) {
				t.Errorf("ReadHead(%q) answers memory of its argument", text)
			}
			if shares(part, parts[(i+1)%3]) {
				t.Errorf("two texts of ReadHead(%q) share memory", text)
			}
		}
	}
}

// Nothing is kept from one call to another, not of what is refused either.
func TestHeadsAreAnsweredAlikeAgain(t *testing.T) {
	wrong := headAt(5)
	wrong.Slot = 10001
	for _, h := range manyHeads() {
		text, _ := impl.HeadText(h)
		root, signed := impl.HeadRoot(h), impl.SigText(h, 255)
		noHead(t, wrong)
		noRead(t, text+"\x00")
		again, ok := impl.HeadText(h)
		if again != text || !ok || impl.HeadRoot(h) != root || impl.SigText(h, 255) != signed {
			t.Errorf("the answers to %s are others the second time", told(h))
		}
		if back, ok := impl.ReadHead(text); back != h || !ok {
			t.Errorf("ReadHead(%q) = %s, %v, want %s, true", text, told(back), ok, told(h))
		}
	}
}
