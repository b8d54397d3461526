package impl

import (
	"strconv"
	"strings"
)

const (
	MaxText   = 20000
	MaxNumber = 1000000000
	MaxWords  = 600
	MaxParts  = 10
)

const hexFigures = "0123456789abcdef"

func VarText(n int) (string, bool) {
	if n < 0 || n > MaxNumber {
		return "", false
	}
	var out []byte
	for n > 127 {
		out = append(out, byte(n%128+128))
		n /= 128
	}
	return string(append(out, byte(n))), true
}

func ReadVar(text string, at int) (int, int, bool) {
	if at < 0 || at > len(text) {
		return 0, 0, false
	}
	n, unit := 0, 1
	// No number has a byte whose unit is above MaxNumber; to stop there also keeps unit from wrapping round.
	for i := at; i < len(text) && unit <= MaxNumber; i++ {
		b := int(text[i])
		n += b % 128 * unit
		unit *= 128
		if b > 127 {
			continue
		}
		// A nought behind other bytes adds nothing: VarText would have ended ahead of it.
		longer := b == 0 && i > at
		if longer || n > MaxNumber {
			return 0, 0, false
		}
		return n, i + 1, true
	}
	return 0, 0, false
}

func ShortText(s string) (string, bool) {
	if len(s) > MaxText {
		return "", false
	}
	size, ok := VarText(len(s))
	return size + s, ok
}

func ReadShort(text string, at int) (string, int, bool) {
	size, from, ok := ReadVar(text, at)
	if !ok || size > MaxText || size > len(text)-from {
		return "", 0, false
	}
	end := from + size
	return strings.Clone(text[from:end]), end, true
}

func Hex(text string) (string, bool) {
	if len(text) > MaxText {
		return "", false
	}
	out := make([]byte, 0, 2*len(text))
	for i := range len(text) {
		out = append(out, hexFigures[text[i]/16], hexFigures[text[i]%16])
	}
	return string(out), true
}

func Unhex(text string) (string, bool) {
	if len(text)%2 != 0 || len(text) > 2*MaxText {
		return "", false
	}
	halves, ok := figuresOf(text, 16)
	if !ok {
		return "", false
	}
	out := make([]byte, len(halves)/2)
	for i := range out {
		out[i] = halves[2*i]*16 + halves[2*i+1]
	}
	return string(out), true
}

func Decimal(n int) string { return strconv.Itoa(n) }

func ReadDecimal(text string) (int, bool) {
	if text == "" || len(text) > len(Decimal(MaxNumber)) {
		return 0, false
	}
	if text[0] == '0' && len(text) > 1 {
		return 0, false
	}
	figures, ok := figuresOf(text, 10)
	n := 0
	for _, f := range figures {
		n = 10*n + int(f)
	}
	if !ok || n > MaxNumber {
		return 0, false
	}
	return n, true
}

func PartsOf(line string) ([]string, bool) {
	if len(line) > MaxWords {
		return nil, false
	}
	for i := range len(line) {
		if line[i] < 32 || line[i] > 126 {
			return nil, false
		}
	}
	// Fields also parts at other white space, but none of that is in 32 .. 126.
	parts := strings.Fields(strings.Clone(line))
	if len(parts) > MaxParts {
		return nil, false
	}
	return parts, true
}

// figuresOf gives what the figures of text are worth, up to the first byte that is none of base 10 or 16, and whether all of them are figures. Capitals are none: Hex does not write them.
func figuresOf(text string, base int) ([]byte, bool) {
	out := make([]byte, 0, len(text))
figures:
	for i := range len(text) {
		c := text[i]
		switch {
		case '0' <= c && c <= '9':
			out = append(out, c-'0')
		case base == 16 && 'a' <= c && c <= 'f':
			out = append(out, c-'a'+10)
		default:
			break figures
		}
	}
	return out, len(out) == len(text)
}
