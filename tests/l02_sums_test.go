package tests

import (
	"strings"
	"testing"

	"loop.example/g00321/impl"
)

// wordedSum is SumMore in the document's words, bit by bit.
func wordedSum(sum uint32, text string) uint32 {
	for i := range len(text) {
		sum ^= uint32(text[i])
		for range 8 {
			odd := sum%2 == 1
			sum /= 2
			if odd {
				sum ^= 3558460437
			}
		}
	}
	return sum
}

// wordedSeal is the text and its sum, the highest byte first, in the document's words.
func wordedSeal(text string) string {
	sum := wordedSum(4294967295, text)
	return text + string([]byte{byte(sum / 16777216), byte(sum / 65536 % 256), byte(sum / 256 % 256), byte(sum % 256)})
}

// manySums are sums to begin with: 0, odd ones, even ones and the greatest.
func manySums() []uint32 {
	list := []uint32{0, 1, 2, 3, 255, 256, 3558460437, 2147483647, 2147483648, 4294967294, 4294967295}
	for sum := uint32(7); len(list) < 40; sum = sum*1664525 + 1013904223 {
		list = append(list, sum)
	}
	return list
}

func sumTexts() []string {
	return []string{
		"", "\x00", "\x01", "\x80", "\xff", "\x00\x00", "abc", "123456789", "any words", allBytes(),
		strings.Repeat("\x00", 50), strings.Repeat("\xff", 50), patterned(127), patterned(1000), patterned(impl.MaxText),
	}
}

func noUnsealed(t *testing.T, text string) {
	t.Helper()
	if got, ok := impl.Unsealed(text); ok || got != "" {
		t.Errorf("Unsealed of %d bytes (%.20q) = %.20q, %v, want empty, false", len(text), text, got, ok)
	}
}

func isSealed(t *testing.T, text string) {
	t.Helper()
	sealed, ok := impl.Sealed(text)
	if want := wordedSeal(text); !ok || sealed != want {
		t.Errorf("Sealed of %d bytes (%.20q) has %d bytes, %v, or ends otherwise than %q", len(text), text, len(sealed), ok, want[len(text):])
	}
	if got, ok := impl.Unsealed(wordedSeal(text)); !ok || got != text {
		t.Errorf("Unsealed of what is sealed of %d bytes (%.20q) has %d bytes, %v", len(text), text, len(got), ok)
	}
}

func TestSumMoreByTheWords(t *testing.T) {
	for _, sum := range manySums() {
		for _, text := range sumTexts() {
			if got, want := impl.SumMore(sum, text), wordedSum(sum, text); got != want {
				t.Errorf("SumMore(%d, %.20q) = %d, want %d", sum, text, got, want)
			}
		}
	}
}

func TestSumMoreOfOneByte(t *testing.T) {
	bytes := allBytes()
	for _, sum := range manySums() {
		for i := range bytes {
			if got, want := impl.SumMore(sum, bytes[i:i+1]), wordedSum(sum, bytes[i:i+1]); got != want {
				t.Errorf("SumMore(%d, %q) = %d, want %d", sum, bytes[i:i+1], got, want)
			}
		}
	}
}

// The numbers were worked out apart from the program, step by step from the document's words.
func TestSumMoreForms(t *testing.T) {
	for _, form := range []struct {
		sum  uint32
		text string
		want uint32
	}{
		{0, "", 0}, {17, "", 17}, {4294967295, "", 4294967295}, {0, "\x00", 0}, {0, "\x80", 3558460437},
		{256, "\x00", 1}, {2147483648, "\x00", 8388608}, {1, "\x01", 0}, {128, "\x00", 3558460437}, {128, "\x80", 0},
	} {
		if got := impl.SumMore(form.sum, form.text); got != form.want {
			t.Errorf("SumMore(%d, %q) = %d, want %d", form.sum, form.text, got, form.want)
		}
	}
}

func TestSumOf(t *testing.T) {
	for _, text := range append(sumTexts(), patterned(impl.MaxText+1), patterned(3*impl.MaxText)) {
		if got, want := impl.SumOf(text), wordedSum(4294967295, text); got != want {
			t.Errorf("SumOf of %d bytes (%.20q) = %d, want %d", len(text), text, got, want)
		}
		if got, want := impl.SumMore(4294967295, text), impl.SumOf(text); got != want {
			t.Errorf("SumMore of 4294967295 and %d bytes = %d, but SumOf is %d", len(text), got, want)
		}
	}
}

func TestSumMoreGoesOn(t *testing.T) {
	whole := patterned(300)
	for at := range len(whole) + 1 {
		if got, want := impl.SumMore(impl.SumOf(whole[:at]), whole[at:]), impl.SumOf(whole); got != want {
			t.Errorf("SumMore from %d on = %d, want %d", at, got, want)
		}
	}
	for _, text := range sumTexts() {
		for _, more := range sumTexts() {
			if got, want := impl.SumMore(impl.SumOf(text), more), impl.SumOf(text+more); got != want {
				t.Errorf("SumMore of %.20q behind %.20q = %d, want %d", more, text, got, want)
			}
		}
	}
}

func TestSealedBack(t *testing.T) {
	for _, text := range sumTexts() {
		isSealed(t, text)
	}
	for size := range 200 {
		isSealed(t, patterned(size))
	}
	if sealed, ok := impl.Sealed(""); !ok || sealed != "\xff\xff\xff\xff" {
		t.Errorf("Sealed of no byte = %q, %v", sealed, ok)
	}
}

func TestSealedLimits(t *testing.T) {
	isSealed(t, patterned(impl.MaxText-1))
	isSealed(t, patterned(impl.MaxText))
	for _, size := range []int{impl.MaxText + 1, impl.MaxText + 4, impl.MaxText + 5, 3 * impl.MaxText} {
		text := patterned(size)
		if sealed, ok := impl.Sealed(text); ok || sealed != "" {
			t.Errorf("Sealed of %d bytes has %d bytes, %v, want none, false", size, len(sealed), ok)
		}
		noUnsealed(t, wordedSeal(text))
	}
}

// Of the texts of MaxText and 4 bytes, and of one more, only those are sealed whose sum stands at their end.
func TestUnsealedLimits(t *testing.T) {
	noUnsealed(t, patterned(impl.MaxText+4))
	noUnsealed(t, patterned(impl.MaxText+5))
	noUnsealed(t, wordedSeal(patterned(impl.MaxText))+"\x00")
	noUnsealed(t, "\x00"+wordedSeal(patterned(impl.MaxText)))
	noUnsealed(t, strings.Repeat("\x00", 10*impl.MaxText))
}

func TestUnsealedOfATurnedByte(t *testing.T) {
	for _, text := range []string{"", "\x00", "abc", strings.Repeat("\x00", 20), patterned(130)} {
		sealed := wordedSeal(text)
		for at := range len(sealed) {
			for turn := 1; turn < 256; turn++ {
				turned := []byte(sealed)
				turned[at] ^= byte(turn)
				noUnsealed(t, string(turned))
			}
		}
	}
}

// A long text is turned at places near its ends and some between, since all would take long.
func TestUnsealedOfATurnedByteOfMany(t *testing.T) {
	sealed := wordedSeal(patterned(impl.MaxText))
	for at := range len(sealed) {
		if at > 10 && at < len(sealed)-10 && at%501 != 0 {
			continue
		}
		for _, turn := range []byte{1, 2, 16, 85, 128, 255} {
			turned := []byte(sealed)
			turned[at] ^= turn
			noUnsealed(t, string(turned))
		}
	}
}

func TestUnsealedOfFewBytes(t *testing.T) {
	for _, text := range []string{"", "\xff", "\xff\xff", "\xff\xff\xff", "\x00", "\x00\x00\x00", "abc"} {
		noUnsealed(t, text)
	}
	noUnsealed(t, "\x00\x00\x00\x00")
	noUnsealed(t, "abcd")
	if got, ok := impl.Unsealed("\xff\xff\xff\xff"); !ok || got != "" {
		t.Errorf("Unsealed of the sum of no byte = %q, %v, want empty, true", got, ok)
	}
}

func TestUnsealedOfOtherLengths(t *testing.T) {
	for _, text := range []string{"a", "abc", allBytes(), patterned(500)} {
		sealed := wordedSeal(text)
		for cut := range len(sealed) {
			noUnsealed(t, sealed[:cut])
		}
		for _, more := range []string{"\x00", "\x01", "\xff", "a", "\x00\x00\x00\x00", "\xff\xff\xff\xff", sealed} {
			noUnsealed(t, sealed+more)
			noUnsealed(t, more+sealed)
		}
		noUnsealed(t, sealed[1:])
		noUnsealed(t, text)
	}
}

func TestUnsealedOfTheOtherOrder(t *testing.T) {
	for _, text := range []string{"\x00", "a", "abc", "any words", allBytes(), patterned(impl.MaxText)} {
		sealed := wordedSeal(text)
		sum := sealed[len(text):]
		for _, order := range [][4]int{{3, 2, 1, 0}, {2, 3, 0, 1}, {1, 0, 3, 2}, {1, 2, 3, 0}} {
			noUnsealed(t, text+string([]byte{sum[order[0]], sum[order[1]], sum[order[2]], sum[order[3]]}))
		}
		noUnsealed(t, sum+text)
	}
}

func TestSumsShareNothing(t *testing.T) {
	for _, size := range []int{1, 40, 1000} {
		text := patterned(size)
		sealed, _ := impl.Sealed(text)
		back, _ := impl.Unsealed(sealed)
		if shares(text, sealed) {
			t.Errorf("Sealed of %d bytes answers memory of its argument", size)
		}
		if shares(sealed, back) {
			t.Errorf("Unsealed to %d bytes answers memory of its argument", size)
		}
	}
}
