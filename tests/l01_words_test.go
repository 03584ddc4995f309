package tests

import (
	"math"
	"slices"
	"strconv"
	"strings"
	"testing"
	"unsafe"

	"loop.example/g00321/impl"
)

// varForms holds numbers against the bytes that the document's rule gives for them.
var varForms = []struct {
	n    int
	text string
}{
	{0, "\x00"},
	{1, "\x01"},
	{127, "\x7f"},
	{128, "\x80\x01"},
	{129, "\x81\x01"},
	{300, "\xac\x02"},
	{16383, "\xff\x7f"},
	{16384, "\x80\x80\x01"},
	{2097151, "\xff\xff\x7f"},
	{2097152, "\x80\x80\x80\x01"},
	{268435455, "\xff\xff\xff\x7f"},
	{268435456, "\x80\x80\x80\x80\x01"},
	{999999999, "\xff\x93\xeb\xdc\x03"},
	{1000000000, "\x80\x94\xeb\xdc\x03"},
}

// manyNumbers are ordinary numbers of every size in 0 .. MaxNumber, and those beside powers of two.
func manyNumbers() []int {
	list := []int{0, impl.MaxNumber - 1, impl.MaxNumber}
	for power := 1; power <= impl.MaxNumber; power *= 2 {
		list = append(list, power-1, power, power+1)
	}
	for n := 3; n <= impl.MaxNumber; n = n*7/5 + 11 {
		list = append(list, n)
	}
	return list
}

// allBytes is a text with each of the 256 bytes once.
func allBytes() string {
	list := make([]byte, 256)
	for i := range list {
		list[i] = byte(i)
	}
	return string(list)
}

// patterned is a text of that length whose bytes differ from place to place.
func patterned(size int) string {
	list := make([]byte, size)
	for i := range list {
		list[i] = byte(i*37 + i/251)
	}
	return string(list)
}

// shares tells whether two texts have a byte of memory in common.
func shares(a, b string) bool {
	if a == "" || b == "" {
		return false
	}
	from, other := uintptr(unsafe.Pointer(unsafe.StringData(a))), uintptr(unsafe.Pointer(unsafe.StringData(b)))
	return from < other+uintptr(len(b)) && other < from+uintptr(len(a))
}

func noVar(t *testing.T, text string, at int) {
	t.Helper()
	if n, behind, ok := impl.ReadVar(text, at); ok || n != 0 || behind != 0 {
		t.Errorf("ReadVar(%q, %d) = %d, %d, %v, want 0, 0, false", text, at, n, behind, ok)
	}
}

func noShort(t *testing.T, text string, at int) {
	t.Helper()
	if s, behind, ok := impl.ReadShort(text, at); ok || s != "" || behind != 0 {
		t.Errorf("ReadShort of %d bytes at %d = %d bytes, %d, %v, want none, 0, false", len(text), at, len(s), behind, ok)
	}
}

func noUnhex(t *testing.T, text string) {
	t.Helper()
	if s, ok := impl.Unhex(text); ok || s != "" {
		t.Errorf("Unhex of %d figures (%.20q) = %.20q, %v, want empty, false", len(text), text, s, ok)
	}
}

func noDecimal(t *testing.T, text string) {
	t.Helper()
	if n, ok := impl.ReadDecimal(text); ok || n != 0 {
		t.Errorf("ReadDecimal(%.40q) = %d, %v, want 0, false", text, n, ok)
	}
}

func noParts(t *testing.T, line string) {
	t.Helper()
	if parts, ok := impl.PartsOf(line); ok || len(parts) != 0 {
		t.Errorf("PartsOf(%.40q) = %q, %v, want none, false", line, parts, ok)
	}
}

func theParts(t *testing.T, line string, want ...string) {
	t.Helper()
	if parts, ok := impl.PartsOf(line); !ok || !slices.Equal(parts, want) {
		t.Errorf("PartsOf(%.40q) = %q, %v, want %q, true", line, parts, ok, want)
	}
}

func TestWordLimits(t *testing.T) {
	limits := []int{impl.MaxText, impl.MaxNumber, impl.MaxWords, impl.MaxParts}
	if !slices.Equal(limits, []int{20000, 1000000000, 600, 10}) {
		t.Errorf("limits are %d", limits)
	}
}

func TestVarTextForms(t *testing.T) {
	for _, form := range varForms {
		if text, ok := impl.VarText(form.n); !ok || text != form.text {
			t.Errorf("VarText(%d) = %q, %v, want %q, true", form.n, text, ok, form.text)
		}
		if n, behind, ok := impl.ReadVar(form.text, 0); !ok || n != form.n || behind != len(form.text) {
			t.Errorf("ReadVar(%q, 0) = %d, %d, %v, want %d, %d, true", form.text, n, behind, ok, form.n, len(form.text))
		}
	}
}

func TestVarTextOutside(t *testing.T) {
	for _, n := range []int{-1, -128, math.MinInt, impl.MaxNumber + 1, 1 << 31, 1 << 32, math.MaxInt} {
		if text, ok := impl.VarText(n); ok || text != "" {
			t.Errorf("VarText(%d) = %q, %v, want empty, false", n, text, ok)
		}
	}
}

func TestReadVarBack(t *testing.T) {
	for _, n := range manyNumbers() {
		text, ok := impl.VarText(n)
		if !ok {
			t.Errorf("VarText(%d) is false", n)
		}
		for _, ahead := range []string{"", "\x00", "\x80", "\xff\xff", "ahead"} {
			for _, behind := range []string{"", "\x00", "\x01", "\xff", "behind"} {
				got, place, ok := impl.ReadVar(ahead+text+behind, len(ahead))
				if !ok || got != n || place != len(ahead)+len(text) {
					t.Errorf("ReadVar of %d between %q and %q = %d, %d, %v", n, ahead, behind, got, place, ok)
				}
			}
		}
	}
}

func TestReadVarNone(t *testing.T) {
	longer := []string{
		"\x80\x00", "\x81\x00", "\xff\x00", "\xac\x82\x00", "\x80\x80\x00", "\x80\x80\x80\x00",
		"\x80\x80\x80\x80\x00", "\x80\x80\x80\x80\x80\x00", "\x85\x80\x00", "\x80\x94\xeb\xdc\x83\x00",
	}
	above := []string{
		"\x81\x94\xeb\xdc\x03", "\x80\x94\xeb\xdc\x04", "\xff\xff\xff\xff\x03", "\xff\xff\xff\xff\x7f",
		"\x80\x80\x80\x80\x80\x01", "\x81\x80\x80\x80\x80\x80\x80\x80\x80\x01", "\x81\x80\x80\x80\x80\x80\x80\x80\x80\x80\x01",
		strings.Repeat("\xff", 100) + "\x01", strings.Repeat("\x80", 100) + "\x01",
	}
	cut := []string{"", "\x80", "\xff", "\xac", "\x80\x94\xeb\xdc", "\xff\xff\xff\xff\xff", strings.Repeat("\x80", 100)}
	for _, text := range slices.Concat(longer, above, cut) {
		noVar(t, text, 0)
		noVar(t, "ahead"+text, 5)
	}
}

func TestReadVarPlaces(t *testing.T) {
	text := "\x05\x06\xac\x02"
	for _, at := range []int{-1, -4, math.MinInt, 4, 5, 100, math.MaxInt} {
		noVar(t, text, at)
	}
	noVar(t, "", 0)
	noVar(t, "", 1)
	noVar(t, "", -1)
	if n, behind, ok := impl.ReadVar(text, 3); !ok || n != 2 || behind != 4 {
		t.Errorf("ReadVar at the last byte = %d, %d, %v, want 2, 4, true", n, behind, ok)
	}
}

// One number has one form: all texts of at most two bytes that are read are what VarText writes.
func TestReadVarOneForm(t *testing.T) {
	bytes := allBytes()
	for i := range bytes {
		for j := range bytes {
			text := bytes[i:i+1] + bytes[j:j+1]
			n, behind, ok := impl.ReadVar(text, 0)
			if !ok {
				if i < 128 || j > 0 && j < 128 {
					t.Fatalf("ReadVar(%q, 0) is false", text)
				}
				continue
			}
			if written, _ := impl.VarText(n); behind > 2 || written != text[:behind] {
				t.Fatalf("ReadVar(%q, 0) = %d, %d, but that is written as %q", text, n, behind, written)
			}
		}
	}
}

func TestShortTextBack(t *testing.T) {
	texts := []string{"", "a", "\x00", "\x80", "any words", allBytes(), patterned(127), patterned(128), patterned(16383), patterned(16384), patterned(impl.MaxText - 1), patterned(impl.MaxText)}
	for _, s := range texts {
		short, ok := impl.ShortText(s)
		size, _ := impl.VarText(len(s))
		if !ok || short != size+s {
			t.Errorf("ShortText of %d bytes has %d bytes, %v", len(s), len(short), ok)
		}
		for _, ahead := range []string{"", "\xff", "ahead"} {
			for _, behind := range []string{"", "\x00", "behind"} {
				got, place, ok := impl.ReadShort(ahead+short+behind, len(ahead))
				if !ok || got != s || place != len(ahead)+len(short) {
					t.Errorf("ReadShort of %d bytes between %q and %q = %d bytes, %d, %v", len(s), ahead, behind, len(got), place, ok)
				}
			}
		}
	}
}

func TestShortTextForms(t *testing.T) {
	for s, want := range map[string]string{"": "\x00", "abc": "\x03abc", "\x00": "\x01\x00"} {
		if short, ok := impl.ShortText(s); !ok || short != want {
			t.Errorf("ShortText(%q) = %q, %v, want %q, true", s, short, ok, want)
		}
	}
}

func TestShortTextOutside(t *testing.T) {
	for _, size := range []int{impl.MaxText + 1, impl.MaxText + 128, 3 * impl.MaxText} {
		if short, ok := impl.ShortText(patterned(size)); ok || short != "" {
			t.Errorf("ShortText of %d bytes = %d bytes, %v, want none, false", size, len(short), ok)
		}
		length, _ := impl.VarText(size)
		noShort(t, length+patterned(size), 0)
		noShort(t, length+patterned(size+5), 0)
	}
}

func TestReadShortNone(t *testing.T) {
	for _, text := range []string{
		"", "\x01", "\x03ab", "\x80", "\x80\x01", "\x80\x00", "\x83\x00abc", "\xff\xff\xff\xff\x7fabc",
		"\x80\x94\xeb\xdc\x03abc", "\x80\x01" + patterned(127),
	} {
		noShort(t, text, 0)
		noShort(t, "ahead"+text, 5)
	}
	text := "\x01a\x02bc"
	for _, at := range []int{-1, math.MinInt, 5, 6, math.MaxInt} {
		noShort(t, text, at)
	}
	if s, behind, ok := impl.ReadShort(text, 2); !ok || s != "bc" || behind != 5 {
		t.Errorf("ReadShort(%q, 2) = %q, %d, %v, want bc, 5, true", text, s, behind, ok)
	}
	if s, behind, ok := impl.ReadShort("ab\x00", 2); !ok || s != "" || behind != 3 {
		t.Errorf("ReadShort of no byte at the end = %q, %d, %v, want empty, 3, true", s, behind, ok)
	}
}

func TestHexBack(t *testing.T) {
	for _, text := range []string{"", "\x00", "\xff", "any words", allBytes(), patterned(impl.MaxText - 1), patterned(impl.MaxText)} {
		figures, ok := impl.Hex(text)
		if !ok || len(figures) != 2*len(text) {
			t.Errorf("Hex of %d bytes has %d figures, %v", len(text), len(figures), ok)
		}
		if got, ok := impl.Unhex(figures); !ok || got != text {
			t.Errorf("Unhex of Hex of %d bytes has %d bytes, %v", len(text), len(got), ok)
		}
	}
}

func TestHexForms(t *testing.T) {
	for text, want := range map[string]string{
		"": "", "\x00": "00", "\x0f\xf0": "0ff0", "\x12\x34\x56\x78\x9a\xbc\xde\xf0": "123456789abcdef0", "/:@G`g": "2f3a40476067",
	} {
		if figures, ok := impl.Hex(text); !ok || figures != want {
			t.Errorf("Hex(%q) = %q, %v, want %q, true", text, figures, ok, want)
		}
		if got, ok := impl.Unhex(want); !ok || got != text {
			t.Errorf("Unhex(%q) = %q, %v, want %q, true", want, got, ok, text)
		}
	}
}

func TestHexOutside(t *testing.T) {
	if figures, ok := impl.Hex(patterned(impl.MaxText + 1)); ok || figures != "" {
		t.Errorf("Hex of a text that is too long has %d figures, %v", len(figures), ok)
	}
	noUnhex(t, strings.Repeat("0", 2*impl.MaxText+1))
	noUnhex(t, strings.Repeat("0", 2*impl.MaxText+2))
	noUnhex(t, strings.Repeat("ab", 2*impl.MaxText))
}

func TestUnhexNone(t *testing.T) {
	for _, text := range []string{"0", "a", "000", "abc", "A0", "0A", "aF", "FF", "0x", "0x10", " 00", "00 ", "-1", "+1", "00g0", "0000\n", "0\x00"} {
		noUnhex(t, text)
	}
	bytes := allBytes()
	for i := range bytes {
		figure := strings.Contains("0123456789abcdef", bytes[i:i+1])
		for _, text := range []string{bytes[i:i+1] + "7", "7" + bytes[i:i+1]} {
			if !figure {
				noUnhex(t, text)
				noUnhex(t, "0123"+text)
				noUnhex(t, text+"0123")
			} else if _, ok := impl.Unhex(text); !ok {
				t.Errorf("Unhex(%q) is false", text)
			}
		}
	}
}

func TestDecimalBack(t *testing.T) {
	for _, n := range append(manyNumbers(), 9, 10, 11, 99, 100, 101, 12345) {
		if got, ok := impl.ReadDecimal(impl.Decimal(n)); !ok || got != n {
			t.Errorf("ReadDecimal of Decimal of %d = %d, %v", n, got, ok)
		}
	}
}

func TestDecimalForms(t *testing.T) {
	for n, want := range map[int]string{
		0: "0", 7: "7", 10: "10", 1009: "1009", impl.MaxNumber: "1000000000", -1: "-1", -10: "-10", -1000000001: "-1000000001",
		math.MaxInt: "9223372036854775807", math.MinInt: "-9223372036854775808",
	} {
		if got := impl.Decimal(n); got != want {
			t.Errorf("Decimal(%d) = %q, want %q", n, got, want)
		}
	}
}

func TestReadDecimalForms(t *testing.T) {
	for text, want := range map[string]int{"0": 0, "5": 5, "10": 10, "907": 907, "999999999": 999999999, "1000000000": 1000000000} {
		if n, ok := impl.ReadDecimal(text); !ok || n != want {
			t.Errorf("ReadDecimal(%q) = %d, %v, want %d, true", text, n, ok, want)
		}
	}
}

func TestReadDecimalNone(t *testing.T) {
	for _, text := range []string{
		"", "00", "01", "007", "0000000000", "0000000001", "01000000000", "-0", "-1", "-5", "+0", "+5", " 5", "5 ", "5\n", "1 2", "1.0", "1e3", "1_000", "0x1", "a", "1a", "f", "٣", "\x00",
		"1000000001", "1000000010", "1100000000", "2000000000", "9999999999", "10000000000", "4294967296", "4294967301",
		"9223372036854775807", "9223372036854775808", "18446744073709551616", "18446744073709551621", "36893488147419103237",
		strings.Repeat("0", 100), strings.Repeat("9", 1000), "1" + strings.Repeat("0", 100000), strings.Repeat("0", 100000) + "1",
	} {
		noDecimal(t, text)
	}
	bytes := allBytes()
	for i := range bytes {
		if bytes[i] < '0' || bytes[i] > '9' {
			noDecimal(t, bytes[i:i+1])
			noDecimal(t, bytes[i:i+1]+"7")
			noDecimal(t, "7"+bytes[i:i+1])
		}
	}
}

func TestPartsOf(t *testing.T) {
	theParts(t, "")
	theParts(t, " ")
	theParts(t, strings.Repeat(" ", impl.MaxWords))
	theParts(t, "drain", "drain")
	theParts(t, "tick 1", "tick", "1")
	theParts(t, " tick  1 2 ", "tick", "1", "2")
	theParts(t, "   tick", "tick")
	theParts(t, "tick   ", "tick")
	theParts(t, "! ~ }", "!", "~", "}")
	theParts(t, "a a  a", "a", "a", "a")
	theParts(t, "1 2 3 4 5 6 7 8 9 10", "1", "2", "3", "4", "5", "6", "7", "8", "9", "10")
	theParts(t, "  a b c d e f g h i  j  ", "a", "b", "c", "d", "e", "f", "g", "h", "i", "j")
}

func TestPartsOfLimits(t *testing.T) {
	whole := strings.Repeat("x", impl.MaxWords)
	theParts(t, whole, whole)
	theParts(t, whole[1:], whole[1:])
	blanks := strings.Repeat(" ", impl.MaxWords-2)
	theParts(t, "a"+blanks+"b", "a", "b")
	noParts(t, whole+"x")
	noParts(t, whole+" ")
	noParts(t, " "+whole)
	noParts(t, strings.Repeat(" ", impl.MaxWords+1))
	noParts(t, "1 2 3 4 5 6 7 8 9 10 11")
	noParts(t, " 1 2 3 4 5 6 7 8 9 10 11 ")
	noParts(t, strings.Repeat("a ", impl.MaxWords/2))
}

func TestPartsOfBytes(t *testing.T) {
	bytes := allBytes()
	for i := range bytes {
		one := bytes[i : i+1]
		if i < 32 || i > 126 {
			noParts(t, one)
			noParts(t, "a"+one+"b")
			noParts(t, "a "+one)
			noParts(t, one+" b")
			noParts(t, " "+one+" ")
		} else if i == 32 {
			theParts(t, "a"+one+"b", "a", "b")
		} else {
			theParts(t, one, one)
			theParts(t, "a"+one+"b", "a"+one+"b")
			theParts(t, "a "+one+" b", "a", one, "b")
		}
	}
	noParts(t, "a\u00a0b")
	noParts(t, "a\u0085b")
}

func TestWordsShareNothing(t *testing.T) {
	short, _ := impl.ShortText(patterned(300))
	text, _, _ := impl.ReadShort(short, 0)
	if shares(short, text) {
		t.Error("ReadShort answers memory of its argument")
	}
	line := strings.Repeat("part ", 5) + strconv.Itoa(12345)
	parts, _ := impl.PartsOf(line)
	for i, part := range parts {
		if shares(part, line) {
			t.Errorf("PartsOf answers memory of its argument at %d", i)
		}
	}
}
