package tests

import (
	"encoding/hex"
	"math"
	"slices"
	"strconv"
	"strings"
	"testing"

	"loop.example/g00321/impl"
)

// treeWidths are the whole powers of two up to 32: how many nodes stand lowest in a tree of 0, 1, .. 5 levels.
func treeWidths() []int {
	return []int{1, 2, 4, 8, 16, 32}
}

// filledUp is the leaves and empty texts behind them up to the next whole power of two.
func filledUp(leaves []string) []string {
	list := slices.Clone(leaves)
	for !slices.Contains(treeWidths(), len(list)) {
		list = append(list, "")
	}
	return list
}

// nodeOver goes from the root down: a node is made of those over both halves of its texts.
func nodeOver(texts []string) string {
	if len(texts) == 1 {
		return impl.Digest(texts[0])
	}
	half := len(texts) / 2
	return impl.DigestPair(nodeOver(texts[:half]), nodeOver(texts[half:]))
}

// nodesBeside goes from the root down, too: what stands over the other half comes last.
func nodesBeside(texts []string, place int) []string {
	if len(texts) == 1 {
		return nil
	}
	half := len(texts) / 2
	if place < half {
		return append(nodesBeside(texts[:half], place), nodeOver(texts[half:]))
	}
	return append(nodesBeside(texts[half:], place-half), nodeOver(texts[:half]))
}

func wordedRoot(leaves []string) string {
	if len(leaves) > 32 {
		return ""
	}
	return nodeOver(filledUp(leaves))
}

func wordedBranch(leaves []string, i int) []string {
	if i < 0 || i >= len(leaves) || len(leaves) > 32 {
		return nil
	}
	return nodesBeside(filledUp(leaves), i)
}

// wordedFold goes from the root down: the last of the branch stands beside all that is below.
func wordedFold(leaf string, i int, branch []string) string {
	if len(branch) >= len(treeWidths()) || i < 0 || i >= treeWidths()[len(branch)] {
		return ""
	}
	if len(branch) == 0 {
		return impl.Digest(leaf)
	}
	last, half := len(branch)-1, treeWidths()[len(branch)-1]
	under := wordedFold(leaf, i%half, branch[:last])
	if i >= half {
		return impl.DigestPair(branch[last], under)
	}
	return impl.DigestPair(under, branch[last])
}

// countedLeaves are so many leaves, no two of them alike and none of them empty.
func countedLeaves(count int) []string {
	list := make([]string, count)
	for i := range list {
		list[i] = strconv.Itoa(i)
	}
	return list
}

// sizedLeaves are so many leaves of many lengths, an empty one first.
func sizedLeaves(count int) []string {
	sizes := edgeSizes()
	list := make([]string, count)
	for i := range list {
		list[i] = patterned(sizes[i%len(sizes)] + i/len(sizes))
	}
	return list
}

// leafLists are lists of every length up to 32: counted, of many lengths, empty, and all alike.
func leafLists() [][]string {
	lists := [][]string{nil, {}}
	for count := 1; count <= 32; count++ {
		lists = append(lists, countedLeaves(count), sizedLeaves(count), make([]string, count), slices.Repeat([]string{"alike"}, count))
	}
	return append(lists,
		[]string{"a", "b", "a", "b", "a"}, []string{"", "a", ""}, []string{"a", "", "", "b", ""}, []string{"\x00", "\xff", "\x80\xc3(", "ä", allBytes()},
		[]string{impl.Digest("")}, []string{impl.Digest(""), impl.Digest("a"), ""}, []string{impl.Digest("a") + impl.Digest("b"), "a", "b"},
		[]string{patterned(20000), patterned(20001), patterned(300000)}, []string{strings.Repeat("a", 20001)},
	)
}

// tooManyLeaves are lists of more than 32.
func tooManyLeaves() [][]string {
	var lists [][]string
	for _, count := range []int{33, 34, 63, 64, 65, 100, 1000} {
		lists = append(lists, countedLeaves(count), make([]string, count))
	}
	return lists
}

// farPlaces are none in any list and behind no branch.
func farPlaces() []int {
	return []int{math.MinInt, math.MinInt + 1, -1 << 33, -1 << 32, -33, -32, -31, -2, -1, 32, 33, 63, 64, 65, 1 << 31, 1 << 32, 1<<32 + 1, 1 << 62, math.MaxInt - 1, math.MaxInt}
}

// roomyTexts has room behind it in which two texts stand.
func roomyTexts(list []string) []string {
	room := append(slices.Clone(list), "room", "more room")
	return room[:len(list)]
}

// isAsItWas asks for a list of roomyTexts and for its room.
func isAsItWas(t *testing.T, call string, list []string, want []string) {
	t.Helper()
	if !slices.Equal(list, want) || !slices.Equal(list[len(list):len(list)+2], []string{"room", "more room"}) {
		t.Errorf("%s left %.20q of %.20q", call, list[:len(list)+2], want)
	}
}

func fromFigures(t *testing.T, figures string) string {
	t.Helper()
	text, err := hex.DecodeString(figures)
	if err != nil {
		t.Fatal(err)
	}
	return string(text)
}

func noBranch(t *testing.T, leaves []string, i int) {
	t.Helper()
	if got := impl.BranchOf(leaves, i); len(got) != 0 {
		t.Errorf("BranchOf of %d leaves at %d has %d parts, want none", len(leaves), i, len(got))
	}
}

func noFold(t *testing.T, leaf string, i int, branch []string) {
	t.Helper()
	if got := impl.FoldBranch(leaf, i, branch); got != "" {
		t.Errorf("FoldBranch(%.20q, %d, %d parts) = %x, want nothing", leaf, i, len(branch), got)
	}
}

// notTheRoot tells a fold that should not come to the root.
func notTheRoot(t *testing.T, told string, root string, leaf string, i int, branch []string) {
	t.Helper()
	if impl.FoldBranch(leaf, i, branch) == root {
		t.Errorf("%s: FoldBranch(%.20q, %d, %d parts) is the root %x", told, leaf, i, len(branch), root)
	}
}

func TestTreeDepth(t *testing.T) {
	if impl.MaxDeep != 5 {
		t.Errorf("MaxDeep = %d, want 5", impl.MaxDeep)
	}
}

func TestLevelsOf(t *testing.T) {
	for n, want := range []int{0, 0, 1, 2, 2, 3, 3, 3, 3, 4, 4, 4, 4, 4, 4, 4, 4, 5, 5, 5, 5, 5, 5, 5, 5, 5, 5, 5, 5, 5, 5, 5, 5} {
		if got := impl.LevelsOf(n); got != want {
			t.Errorf("LevelsOf(%d) = %d, want %d", n, got, want)
		}
	}
	for _, n := range append(farPlaces(), -3, -4, 34, 128, 1000) {
		want := -1
		if n == 32 {
			want = 5
		}
		if got := impl.LevelsOf(n); got != want {
			t.Errorf("LevelsOf(%d) = %d, want %d", n, got, want)
		}
	}
}

// The figures were worked out apart from the program.
func TestRootOfForms(t *testing.T) {
	for _, form := range []struct {
		leaves []string
		want   string
	}{
		{nil, "c5d2460186f7233c927e7db2dcc703c0e500b653ca82273b7bfad8045d85a470"},
		{countedLeaves(1), "044852b2a670ade5407e78fb2863c51de9fcb96542a07186fe3aeda6bb8a116d"},
		{countedLeaves(2), "0b4aa17bff8fc189efb37609ac5ea9fca0df4c834a6fbac74b24c8119c40fef2"},
		{countedLeaves(3), "09a9527eb13222e9d10c24870e01c0885fad728f0a3ebdf591465714d230fa62"},
		{countedLeaves(4), "9e031569905bf7098e9e3b14d5c8e2ed05f6e8dc1acaaad6a221cd6603e01d3b"},
		{countedLeaves(5), "12eca4c43d5533b8d031ab26096949de77c8bbc2a17ae457d8eb713b63373142"},
		{countedLeaves(7), "62f1704ca6c3a58aa44fefceeb555f2e2e0e2ea7c663c98e62766c80d239ef17"},
		{countedLeaves(8), "568ff5eb286f51b8a3e8de4e53aa8daed44594a246deebbde119ea2eb27acd6b"},
		{countedLeaves(9), "16cc6247d735812d420ae15b6dda84b12beeed2456485ca5cbd5dfdc2670e9f0"},
		{countedLeaves(15), "f1a4e216a9965bfd4c37abfc4e55128a3b2a180ddea6948dd9e8cac192fd6d27"},
		{countedLeaves(16), "a0b3da01126dddec0a5733c1e367356786457b7459c3e72f82fc4d472b4f0349"},
		{countedLeaves(17), "d625ec237590bfa2f441d98b3044f8dcd30323bd69538acf4c694994f4ae6aec"},
		{countedLeaves(31), "ea745985ddcd391c4e62ef0e29d203f80677a407f923f744a35818b2f4a64b4e"},
		{countedLeaves(32), "038fdbe4e53aa8ad6a3fbd3a496f101c4aa665353e835cbdd14e3c6172f826f3"},
		{countedLeaves(33), ""},
		{[]string{"a", "b", "c"}, "255e329520bc51f5e705068bb208128898ddcd74653d4fc33ab26abdf010a287"},
		{[]string{""}, "c5d2460186f7233c927e7db2dcc703c0e500b653ca82273b7bfad8045d85a470"},
		{[]string{"", ""}, "9c6b2c1b0d0b25a008e6c882cc7b415f309965c72ad2b944ac0931048ca31cd5"},
		{[]string{"", "", ""}, "fadbd3c7f79fa2bdc4f24857709cd4a4e870623dc9e9abcdfd6e448033e35212"},
	} {
		want := fromFigures(t, form.want)
		if got := impl.RootOf(form.leaves); got != want {
			t.Errorf("RootOf(%q) = %x, want %x", form.leaves, got, want)
		}
		if got := wordedRoot(form.leaves); got != want {
			t.Errorf("the words make %x of %q, want %x", got, form.leaves, want)
		}
	}
}

// The figures were worked out apart from the program.
func TestBranchOfForms(t *testing.T) {
	three, five := []string{"a", "b", "c"}, countedLeaves(5)
	for _, form := range []struct {
		leaves []string
		i      int
		want   []string
	}{
		{three, 0, []string{"b5553de315e0edf504d9150af82dafa5c4667fa618ed0a6f19c69b41166c5510", "fd2d8986a5b354385f3240d9a77872a448d036018e6abaab4a0ec01c51b6a9b4"}},
		{three, 1, []string{"3ac225168df54212a25c1c01fd35bebfea408fdac2e31ddd6f80a4bbf9a5f1cb", "fd2d8986a5b354385f3240d9a77872a448d036018e6abaab4a0ec01c51b6a9b4"}},
		{three, 2, []string{"c5d2460186f7233c927e7db2dcc703c0e500b653ca82273b7bfad8045d85a470", "805b21d846b189efaeb0377d6bb0d201b3872a363e607c25088f025b0c6ae1f8"}},
		{three, 3, nil}, {three, -1, nil}, {five, 5, nil}, {five, 7, nil}, {five, 8, nil}, {nil, 0, nil}, {[]string{"a"}, 0, nil}, {[]string{"a"}, 1, nil},
		{five, 0, []string{"c89efdaa54c0f20c7adf612882df0950f5a951637e0307cdcb4c672f298b8bc6", "27c2feed9df4c4903bfc9f1bda886662bebc8ba175ccdb3d1da20ce3a32441ba", "bff6d295c828502a9e37d0121b499ac0ffbc1ff66daf7b3a78142ff7304495f3"}},
		{five, 4, []string{"c5d2460186f7233c927e7db2dcc703c0e500b653ca82273b7bfad8045d85a470", "9c6b2c1b0d0b25a008e6c882cc7b415f309965c72ad2b944ac0931048ca31cd5", "9e031569905bf7098e9e3b14d5c8e2ed05f6e8dc1acaaad6a221cd6603e01d3b"}},
	} {
		var want []string
		for _, figures := range form.want {
			want = append(want, fromFigures(t, figures))
		}
		if got := impl.BranchOf(form.leaves, form.i); !slices.Equal(got, want) {
			t.Errorf("BranchOf(%q, %d) = %x, want %x", form.leaves, form.i, got, want)
		}
		if got := wordedBranch(form.leaves, form.i); !slices.Equal(got, want) {
			t.Errorf("the words make %x of %q at %d, want %x", got, form.leaves, form.i, want)
		}
	}
}

// The figures were worked out apart from the program.
func TestFoldBranchForms(t *testing.T) {
	five := []string{"1", "22", "", "4444", "\xff\x00"}
	for _, form := range []struct {
		leaf   string
		i      int
		branch []string
		want   string
	}{
		{"a", 0, nil, "3ac225168df54212a25c1c01fd35bebfea408fdac2e31ddd6f80a4bbf9a5f1cb"},
		{"", 0, nil, "c5d2460186f7233c927e7db2dcc703c0e500b653ca82273b7bfad8045d85a470"},
		{"", 0, []string{""}, "10ca3eff73ebec87d2394fc58560afeab86dac7a21f5e402ea0a55e5c8a6758f"},
		{"", 1, []string{""}, "10ca3eff73ebec87d2394fc58560afeab86dac7a21f5e402ea0a55e5c8a6758f"},
		{"a", 0, []string{"x"}, "2b366ac6115457472fadba89995f06f5165b5b50e0fa9c2275271ec614845b80"},
		{"a", 1, []string{"x"}, "4d445afee1e507dcd6b2a71dca5403a4ebc8a6670bed58c61cc652ac0b1a791a"},
		{"a", 2, []string{"x"}, ""},
		{"a", 2, []string{"x", "yz"}, "32ddb28736dbacdcfcb1dc21596ad1b9f0635e1358921b851f2d59095acd9b5f"},
		{"a", 1, []string{"x", "yz"}, "4fbd2ba8f10ec95f1fa0d2c8c562edd90cd31dc2343588d839fe9d59685d1f7d"},
		{"a", 4, []string{"x", "yz"}, ""},
		{"leaf", 0, five, "1f436b351712e18f897c2af68d724522dfb97d2117078b19ce0064a44d79679c"},
		{"leaf", 16, five, "0574ab786d0398c02e6a9724fcdbba75dd8e4bf5ef105f9e8c1c9146b06948a8"},
		{"leaf", 21, five, "26d6ad689a7dfd1abafa72e42bf3e1cb5a65276eb567f3b6fc0a3963581c6da8"},
		{"leaf", 31, five, "f7ca3d570639290b40d63e6cef949aad861c51c0589c2e4b646fa0286c4026da"},
		{"leaf", 32, five, ""},
		{"leaf", -1, five, ""},
	} {
		want := fromFigures(t, form.want)
		if got := impl.FoldBranch(form.leaf, form.i, form.branch); got != want {
			t.Errorf("FoldBranch(%q, %d, %q) = %x, want %x", form.leaf, form.i, form.branch, got, want)
		}
		if got := wordedFold(form.leaf, form.i, form.branch); got != want {
			t.Errorf("the words make %x of %q, %d and %q, want %x", got, form.leaf, form.i, form.branch, want)
		}
	}
}

func TestRootOfByTheWords(t *testing.T) {
	for _, leaves := range append(leafLists(), tooManyLeaves()...) {
		want := wordedRoot(leaves)
		if got := impl.RootOf(leaves); got != want {
			t.Errorf("RootOf of %d leaves (%.20q) = %x, want %x", len(leaves), leaves, got, want)
		}
		if len(leaves) <= 32 && len(want) != impl.DigestSize {
			t.Errorf("the root of %d leaves has %d bytes", len(leaves), len(want))
		}
	}
}

func TestBranchOfByTheWords(t *testing.T) {
	for _, leaves := range append(leafLists(), tooManyLeaves()...) {
		for i := -3; i < 70; i++ {
			got, want := impl.BranchOf(leaves, i), wordedBranch(leaves, i)
			if !slices.Equal(got, want) {
				t.Errorf("BranchOf of %d leaves (%.20q) at %d = %x, want %x", len(leaves), leaves, i, got, want)
			}
			for _, part := range got {
				if len(part) != impl.DigestSize {
					t.Errorf("BranchOf of %d leaves at %d has a part of %d bytes", len(leaves), i, len(part))
				}
			}
		}
	}
}

// The promise: a leaf and what stands beside it make the root.
func TestALeafAndItsBranchMakeTheRoot(t *testing.T) {
	for _, leaves := range leafLists() {
		root := impl.RootOf(leaves)
		for i, leaf := range leaves {
			branch := impl.BranchOf(leaves, i)
			if len(branch) != impl.LevelsOf(len(leaves)) {
				t.Errorf("BranchOf of %d leaves at %d has %d parts, LevelsOf is %d", len(leaves), i, len(branch), impl.LevelsOf(len(leaves)))
			}
			if got := impl.FoldBranch(leaf, i, branch); got != root {
				t.Errorf("FoldBranch of leaf %d of %d (%.20q) = %x, want %x", i, len(leaves), leaf, got, root)
			}
		}
	}
}

func TestAnotherLeafIsNotTheRoot(t *testing.T) {
	for count := 1; count <= 32; count++ {
		leaves := countedLeaves(count)
		root := impl.RootOf(leaves)
		for i, leaf := range leaves {
			branch := impl.BranchOf(leaves, i)
			for _, other := range []string{"", leaf + " ", "0" + leaf, leaf + "\x00", impl.Digest(leaf), leaves[(i+count/2)%count] + "!", "other"} {
				notTheRoot(t, "another leaf", root, other, i, branch)
			}
			for place, other := range leaves {
				if place != i {
					notTheRoot(t, "a leaf of another place", root, other, i, branch)
				}
			}
		}
	}
}

func TestAnotherPlaceIsNotTheRoot(t *testing.T) {
	for count := 1; count <= 32; count++ {
		leaves := countedLeaves(count)
		root := impl.RootOf(leaves)
		for i, leaf := range leaves {
			branch := impl.BranchOf(leaves, i)
			for place := range 33 {
				if place != i {
					notTheRoot(t, "another place", root, leaf, place, branch)
				}
			}
			for _, place := range []int{i - 32, i + 32, i + 64, i + 1<<32, ^i, -i - 1, i | math.MinInt} {
				notTheRoot(t, "a place far off", root, leaf, place, branch)
				noFold(t, leaf, place, branch)
			}
		}
	}
}

func TestATurnedBranchIsNotTheRoot(t *testing.T) {
	for count := 2; count <= 32; count++ {
		leaves := countedLeaves(count)
		root := impl.RootOf(leaves)
		for i, leaf := range leaves {
			branch := impl.BranchOf(leaves, i)
			for k, part := range branch {
				for n, place := range []int{0, (i + 7*k) % 32, 31} {
					turned := []byte(part)
					turned[place] ^= 1 << ((i + k + n) % 8)
					notTheRoot(t, "a byte turned", root, leaf, i, withPart(branch, k, string(turned)))
				}
				for _, other := range []string{"", part[1:], part[:31], part + "\x00", "\x00" + part, part + part, leaf, impl.Digest(leaf)} {
					notTheRoot(t, "another part", root, leaf, i, withPart(branch, k, other))
				}
				notTheRoot(t, "a part left out", root, leaf, i, slices.Delete(slices.Clone(branch), k, k+1))
			}
			for _, more := range []string{"", impl.Digest(""), impl.Digest(leaf)} {
				notTheRoot(t, "a part behind all", root, leaf, i, append(slices.Clone(branch), more))
				notTheRoot(t, "a part ahead of all", root, leaf, i, append([]string{more}, branch...))
			}
			if count > 2 {
				turned := slices.Clone(branch)
				slices.Reverse(turned)
				notTheRoot(t, "a branch from above", root, leaf, i, turned)
			}
		}
	}
}

func withPart(branch []string, k int, part string) []string {
	list := slices.Clone(branch)
	list[k] = part
	return list
}

// Every byte of every part counts.
func TestEachByteOfABranchCounts(t *testing.T) {
	leaves := countedLeaves(32)
	root := impl.RootOf(leaves)
	for _, i := range []int{0, 13, 31} {
		branch := impl.BranchOf(leaves, i)
		for k, part := range branch {
			for place := range len(part) {
				turned := []byte(part)
				turned[place]++
				notTheRoot(t, "a byte turned", root, leaves[i], i, withPart(branch, k, string(turned)))
			}
		}
	}
}

// Each leaf counts for the root, and so does its place.
func TestRootOfOtherLeaves(t *testing.T) {
	for count := 1; count <= 32; count++ {
		leaves := countedLeaves(count)
		root := impl.RootOf(leaves)
		for i := range leaves {
			if impl.RootOf(withPart(leaves, i, leaves[i]+"!")) == root {
				t.Errorf("the root of %d leaves is the same with leaf %d turned", count, i)
			}
			if i > 0 {
				swapped := withPart(withPart(leaves, i, leaves[i-1]), i-1, leaves[i])
				if impl.RootOf(swapped) == root {
					t.Errorf("the root of %d leaves is the same with leaves %d and %d swapped", count, i-1, i)
				}
			}
		}
		if impl.RootOf(leaves[:count-1]) == root {
			t.Errorf("the root of %d leaves is the same without the last", count)
		}
	}
}

func TestATreeOfNoLeaves(t *testing.T) {
	for _, none := range [][]string{nil, {}, countedLeaves(4)[:0]} {
		if got := impl.RootOf(none); got != impl.Digest("") {
			t.Errorf("RootOf of no leaves = %x, want Digest of nothing", got)
		}
		for i := -40; i < 40; i++ {
			noBranch(t, none, i)
		}
		for _, i := range farPlaces() {
			noBranch(t, none, i)
		}
	}
	if got := impl.LevelsOf(0); got != 0 {
		t.Errorf("LevelsOf(0) = %d, want 0", got)
	}
}

func TestALeafAlone(t *testing.T) {
	texts := []string{"", "a", "0", "\x00", "\xff", allBytes(), impl.Digest(""), patterned(20000), patterned(20001), patterned(300000)}
	for _, size := range edgeSizes() {
		texts = append(texts, patterned(size))
	}
	for _, leaf := range texts {
		alone, want := []string{leaf}, impl.Digest(leaf)
		if got := impl.RootOf(alone); got != want {
			t.Errorf("RootOf of %.20q alone = %x, want %x", leaf, got, want)
		}
		noBranch(t, alone, 0)
		for _, branch := range [][]string{nil, {}, impl.BranchOf(alone, 0)} {
			if got := impl.FoldBranch(leaf, 0, branch); got != want {
				t.Errorf("FoldBranch(%.20q, 0) with no branch = %x, want %x", leaf, got, want)
			}
			for _, i := range append(farPlaces(), 1, 2, 3, 31) {
				noFold(t, leaf, i, branch)
			}
		}
		for _, i := range append(farPlaces(), 1, 2, 3, 31) {
			noBranch(t, alone, i)
		}
		// One more that is empty stands beside it, though none stands beside a leaf alone.
		if impl.RootOf([]string{leaf, ""}) == want {
			t.Errorf("RootOf of %.20q and an empty leaf is that of it alone", leaf)
		}
	}
}

// Behind the leaves the tree is as if empty ones stood there, but of these no branch is told.
func TestEmptyLeavesBehindTheOthers(t *testing.T) {
	for count := 1; count <= 32; count++ {
		leaves := countedLeaves(count)
		filled := filledUp(leaves)
		if impl.RootOf(leaves) != impl.RootOf(filled) {
			t.Errorf("RootOf of %d leaves is not that of %d with empty ones behind them", count, len(filled))
		}
		for i := range filled {
			if i >= count {
				noBranch(t, leaves, i)
				if got := impl.FoldBranch("", i, impl.BranchOf(filled, i)); got != impl.RootOf(leaves) {
					t.Errorf("FoldBranch of an empty leaf at %d behind %d = %x, want %x", i, count, got, impl.RootOf(leaves))
				}
			} else if !slices.Equal(impl.BranchOf(leaves, i), impl.BranchOf(filled, i)) {
				t.Errorf("BranchOf of %d leaves at %d is not that of %d with empty ones behind them", count, i, len(filled))
			}
		}
		if count < 32 && len(filled) == count && impl.RootOf(leaves) == impl.RootOf(append(leaves, "")) {
			t.Errorf("RootOf of %d leaves is that of one empty one more", count)
		}
	}
}

// Where all that stand lowest are alike, each of them makes the root at any place.
func TestLeavesThatAreAlike(t *testing.T) {
	for levels, width := range treeWidths() {
		for _, leaf := range []string{"", "alike", patterned(136)} {
			leaves := slices.Repeat([]string{leaf}, width)
			node := impl.Digest(leaf)
			var branch []string
			for range levels {
				branch = append(branch, node)
				node = impl.DigestPair(node, node)
			}
			if got := impl.RootOf(leaves); got != node {
				t.Errorf("RootOf of %d leaves %.20q = %x, want %x", width, leaf, got, node)
			}
			for i := range width {
				if got := impl.BranchOf(leaves, i); !slices.Equal(got, branch) {
					t.Errorf("BranchOf of %d leaves %.20q at %d = %x, want %x", width, leaf, i, got, branch)
				}
				if got := impl.FoldBranch(leaf, i, branch); got != node {
					t.Errorf("FoldBranch(%.20q, %d, %d parts) = %x, want %x", leaf, i, levels, got, node)
				}
			}
		}
	}
	// Fewer empty ones are filled up by what is alike.
	for count := 17; count <= 32; count++ {
		if impl.RootOf(make([]string, count)) != impl.RootOf(make([]string, 32)) {
			t.Errorf("RootOf of %d empty leaves is not that of 32", count)
		}
	}
}

func TestTooManyLeaves(t *testing.T) {
	full := countedLeaves(32)
	if len(impl.RootOf(full)) != impl.DigestSize || len(impl.BranchOf(full, 0)) != impl.MaxDeep || len(impl.BranchOf(full, 31)) != impl.MaxDeep {
		t.Error("32 leaves have no root, or no branch of MaxDeep parts")
	}
	for _, leaves := range tooManyLeaves() {
		if got := impl.RootOf(leaves); got != "" {
			t.Errorf("RootOf of %d leaves = %x, want nothing", len(leaves), got)
		}
		for i := range leaves {
			noBranch(t, leaves, i)
		}
		for _, i := range append(farPlaces(), len(leaves), len(leaves)+1) {
			noBranch(t, leaves, i)
		}
	}
}

func TestBranchOfNoSuchPlace(t *testing.T) {
	for count := range 33 {
		leaves := countedLeaves(count)
		for i := count; i < 140; i++ {
			noBranch(t, leaves, i)
		}
		for i := -140; i < 0; i++ {
			noBranch(t, leaves, i)
		}
		for _, i := range farPlaces() {
			noBranch(t, leaves, i)
		}
		for i := range count {
			noBranch(t, leaves, i|math.MinInt)
			noBranch(t, leaves, i+1<<32)
		}
	}
}

// foldParts are parts of DigestSize bytes, of fewer, of more, and of none.
func foldParts() []string {
	return []string{impl.Digest("a"), "", "x", impl.Digest("b")[:31], impl.Digest("c") + "\x00", "", patterned(136), patterned(20001), allBytes(), impl.Digest("")}
}

func TestFoldBranchByTheWords(t *testing.T) {
	parts := foldParts()
	for start := range parts {
		for size := range 9 {
			var branch []string
			for k := range size {
				branch = append(branch, parts[(start+k*(1+start%3))%len(parts)])
			}
			for i := -2; i < 70; i++ {
				for _, leaf := range []string{"", "leaf"} {
					want := wordedFold(leaf, i, branch)
					if got := impl.FoldBranch(leaf, i, branch); got != want {
						t.Errorf("FoldBranch(%q, %d, %.20q) = %x, want %x", leaf, i, branch, got, want)
					}
				}
			}
		}
	}
	for _, leaf := range []string{patterned(135), patterned(136), patterned(20001), patterned(300000), allBytes()} {
		branch := []string{"x", "", impl.Digest("y")}
		for i := range 9 {
			want := wordedFold(leaf, i, branch)
			if got := impl.FoldBranch(leaf, i, branch); got != want {
				t.Errorf("FoldBranch(%.20q, %d, %q) = %x, want %x", leaf, i, branch, got, want)
			}
		}
	}
}

func TestFoldBranchStepByStep(t *testing.T) {
	branch := []string{"0", "1", "2", "3", "4"}
	for i := range 32 {
		node := impl.Digest("leaf")
		for size := range 6 {
			if got, want := impl.FoldBranch("leaf", i%(1<<size), branch[:size]), node; got != want {
				t.Errorf("FoldBranch(leaf, %d, %d parts) = %x, want %x", i%(1<<size), size, got, want)
			}
			if size == 5 {
				continue
			}
			if i>>size&1 == 1 {
				node = impl.DigestPair(branch[size], node)
			} else {
				node = impl.DigestPair(node, branch[size])
			}
		}
	}
}

func TestFoldBranchLimits(t *testing.T) {
	for size, width := range treeWidths() {
		branch := countedLeaves(size)
		for i := range width {
			if got := impl.FoldBranch("leaf", i, branch); len(got) != impl.DigestSize {
				t.Errorf("FoldBranch at %d with %d parts has %d bytes", i, size, len(got))
			}
		}
		for i := width; i < 140; i++ {
			noFold(t, "leaf", i, branch)
		}
		for _, i := range farPlaces() {
			noFold(t, "leaf", i, branch)
		}
	}
	for _, size := range []int{6, 7, 8, 31, 32, 33, 62, 63, 64, 65, 100, 1000} {
		for _, branch := range [][]string{countedLeaves(size), make([]string, size), slices.Repeat([]string{impl.Digest("")}, size)} {
			for i := range 70 {
				noFold(t, "leaf", i, branch)
			}
			for _, i := range farPlaces() {
				noFold(t, "leaf", i, branch)
			}
		}
	}
}

func TestTreesLeaveTheirLeavesAsTheyWere(t *testing.T) {
	for _, leaves := range append(leafLists(), tooManyLeaves()...) {
		list := roomyTexts(leaves)
		root := impl.RootOf(list)
		isAsItWas(t, "RootOf", list, leaves)
		for _, i := range []int{-1, 0, 1, len(leaves) - 1, len(leaves), 31, 32} {
			first := impl.BranchOf(list, i)
			isAsItWas(t, "BranchOf", list, leaves)
			if second := impl.BranchOf(list, i); !slices.Equal(first, second) {
				t.Errorf("BranchOf of %d leaves at %d = %x, and then %x", len(leaves), i, first, second)
			}
		}
		if again := impl.RootOf(list); again != root {
			t.Errorf("RootOf of %d leaves = %x, and then %x", len(leaves), root, again)
		}
	}
}

func TestFoldBranchLeavesItsBranchAsItWas(t *testing.T) {
	parts := foldParts()
	for size := range len(parts) {
		for _, i := range []int{-1, 0, 1, 2, 5, 10, 21, 31, 32, 63} {
			branch := roomyTexts(parts[:size])
			first := impl.FoldBranch("leaf", i, branch)
			isAsItWas(t, "FoldBranch", branch, parts[:size])
			if second := impl.FoldBranch("leaf", i, branch); second != first {
				t.Errorf("FoldBranch at %d with %d parts = %x, and then %x", i, size, first, second)
			}
		}
	}
}

// A branch is new memory: what is written into it, or behind it, is not seen in another, nor in the leaves.
func TestBranchOfIsNew(t *testing.T) {
	for _, count := range []int{1, 2, 3, 5, 8, 17, 32} {
		leaves := countedLeaves(count)
		for i := range leaves {
			first, second := impl.BranchOf(leaves, i), impl.BranchOf(leaves, i)
			want := slices.Clone(second)
			for k := range first {
				first[k] = "written over"
			}
			first = append(first, "behind")
			for k := range first[:cap(first)] {
				first[:cap(first)][k] = "written over"
			}
			if !slices.Equal(second, want) || !slices.Equal(impl.BranchOf(leaves, i), want) {
				t.Errorf("BranchOf of %d leaves at %d changed with another answer", count, i)
			}
			if !slices.Equal(leaves, countedLeaves(count)) {
				t.Errorf("BranchOf of %d leaves at %d answers their own memory", count, i)
			}
		}
		kept, want := impl.BranchOf(leaves, 0), impl.BranchOf(countedLeaves(count), 0)
		for i := range leaves {
			leaves[i] = "written over"
		}
		if !slices.Equal(kept, want) {
			t.Errorf("BranchOf of %d leaves changed with them", count)
		}
	}
}

// A leaf or a part that is a digest itself is not handed back.
func TestTreesAnswerNewTexts(t *testing.T) {
	leaves := []string{impl.Digest("a"), impl.Digest("b"), impl.Digest("c")}
	for i, leaf := range leaves {
		for _, part := range impl.BranchOf(leaves, i) {
			for _, other := range leaves {
				if shares(part, other) {
					t.Errorf("BranchOf at %d answers memory of a leaf", i)
				}
			}
		}
		if shares(impl.RootOf([]string{leaf}), leaf) || shares(impl.FoldBranch(leaf, 0, nil), leaf) || shares(impl.FoldBranch(leaf, 1, []string{leaf}), leaf) {
			t.Errorf("a tree of leaf %d alone answers its memory", i)
		}
	}
}
