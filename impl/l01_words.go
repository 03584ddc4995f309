package impl

import (
	"strconv"
	"strings"
)

const (
	MaxText   = 20000
	MaxNumber = 1000000000
	MaxWords  = 600
	MaxParts  = 10
)

const hexFigures = "0123456789abcdef"

func VarText(n int) (string, bool) {
	if n < 0 || n > MaxNumber {
		return "", false
	}
	var out []byte
	for n > 127 {
		out = append(out, byte(n%128+128))
		n /= 128
	}
	out = append(out, byte(n))
	return string(out), true
}

func ReadVar(text string, at int) (int, int, bool) {
	if at < 0 || at > len(text) {
		return 0, 0, false
	}
	n, weight := 0, 1
	// A byte whose weight passes MaxNumber could only make the number too great or its form too long.
	for i := at; i < len(text) && weight <= MaxNumber; i++ {
		c := int(text[i])
		n += c % 128 * weight
		weight *= 128
		if c > 127 {
			continue
		}
		// A last byte of 0 behind others adds nothing: the number has a shorter form.
		if n > MaxNumber || c == 0 && i > at {
			return 0, 0, false
		}
		return n, i + 1, true
	}
	return 0, 0, false
}

func ShortText(s string) (string, bool) {
	if len(s) > MaxText {
		return "", false
	}
	size, ok := VarText(len(s))
	return size + s, ok
}

func ReadShort(text string, at int) (string, int, bool) {
	size, from, ok := ReadVar(text, at)
	if !ok || size > MaxText || size > len(text)-from {
		return "", 0, false
	}
	// A clone, since an answer shares no memory with an argument.
	return strings.Clone(text[from : from+size]), from + size, true
}

func Hex(text string) (string, bool) {
	if len(text) > MaxText {
		return "", false
	}
	out := make([]byte, 0, 2*len(text))
	for i := 0; i < len(text); i++ {
		out = append(out, hexFigures[text[i]/16], hexFigures[text[i]%16])
	}
	return string(out), true
}

func Unhex(text string) (string, bool) {
	if len(text)%2 != 0 || len(text) > 2*MaxText {
		return "", false
	}
	values, ok := figureValues(text, 16)
	if !ok {
		return "", false
	}
	out := make([]byte, 0, len(values)/2)
	for i := 0; i+1 < len(values); i += 2 {
		out = append(out, byte(values[i]*16+values[i+1]))
	}
	return string(out), true
}

func Decimal(n int) string {
	return strconv.Itoa(n)
}

func ReadDecimal(text string) (int, bool) {
	// The length is looked at first: so few figures can't pass the end of int.
	if len(text) == 0 || len(text) > len(Decimal(MaxNumber)) {
		return 0, false
	}
	if text[0] == '0' && len(text) > 1 {
		return 0, false
	}
	values, ok := figureValues(text, 10)
	if !ok {
		return 0, false
	}
	n := 0
	for _, value := range values {
		n = n*10 + value
	}
	if n > MaxNumber {
		return 0, false
	}
	return n, true
}

func PartsOf(line string) ([]string, bool) {
	if len(line) > MaxWords || !plainBytes(line) {
		return nil, false
	}
	// Of the bytes that are left, the blank alone parts fields.
	parts := strings.Fields(line)
	if len(parts) > MaxParts {
		return nil, false
	}
	for i, part := range parts {
		parts[i] = strings.Clone(part)
	}
	return parts, true
}

// figureValues is the one reader of figures, for bases up to 16; a byte that
// is no figure of the base makes the whole text none.
func figureValues(text string, base int) ([]int, bool) {
	values := make([]int, 0, len(text))
figures:
	for i := 0; i < len(text); i++ {
		value := 0
		switch c := text[i]; {
		case c >= '0' && c <= '9':
			value = int(c - '0')
		case c >= 'a' && c <= 'f':
			value = int(c-'a') + 10
		default:
			break figures
		}
		if value >= base {
			break figures
		}
		values = append(values, value)
	}
	if len(values) < len(text) {
		return nil, false
	}
	return values, true
}

func plainBytes(line string) bool {
	for i := 0; i < len(line); i++ {
		if line[i] < 32 || line[i] > 126 {
			return false
		}
	}
	return true
}
