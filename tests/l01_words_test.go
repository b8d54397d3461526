package tests

import (
	"math"
	"slices"
	"strings"
	"testing"

	"loop.example/g00474/impl"
)

// Numbers at which VarText takes one byte more, and the ends of its range.
var varNumbers = []int{
	0, 1, 2, 126, 127, 128, 129, 255, 256, 300, 16383, 16384, 16385,
	2097151, 2097152, 268435455, 268435456, impl.MaxNumber - 1, impl.MaxNumber,
}

var wrongPlaces = []int{-1, -2, math.MinInt, math.MaxInt}

func allBytes() string {
	b := make([]byte, 256)
	for i := range b {
		b[i] = byte(i)
	}
	return string(b)
}

func refuseVar(t *testing.T, text string, at int) {
	t.Helper()
	if n, end, ok := impl.ReadVar(text, at); ok || n != 0 || end != 0 {
		t.Errorf("ReadVar(%q, %d) = %d, %d, %v; want 0, 0, false", text, at, n, end, ok)
	}
}

func refuseShort(t *testing.T, text string, at int) {
	t.Helper()
	if s, end, ok := impl.ReadShort(text, at); ok || s != "" || end != 0 {
		t.Errorf("ReadShort of %d bytes at %d = %d bytes, %d, %v; want empty, 0, false", len(text), at, len(s), end, ok)
	}
}

func TestLimitsOfWords(t *testing.T) {
	if impl.MaxText != 20000 || impl.MaxNumber != 1000000000 || impl.MaxWords != 600 || impl.MaxParts != 10 {
		t.Error("a limit is not the document's")
	}
}

func TestVarTextWritesItsBytes(t *testing.T) {
	for n, want := range map[int]string{
		0:              "\x00",
		1:              "\x01",
		127:            "\x7f",
		128:            "\x80\x01",
		129:            "\x81\x01",
		300:            "\xac\x02",
		16383:          "\xff\x7f",
		16384:          "\x80\x80\x01",
		2097151:        "\xff\xff\x7f",
		2097152:        "\x80\x80\x80\x01",
		268435455:      "\xff\xff\xff\x7f",
		268435456:      "\x80\x80\x80\x80\x01",
		impl.MaxNumber: "\x80\x94\xeb\xdc\x03",
	} {
		if s, ok := impl.VarText(n); !ok || s != want {
			t.Errorf("VarText(%d) = %q, %v; want %q, true", n, s, ok, want)
		}
	}
}

func TestVarTextRefuses(t *testing.T) {
	for _, n := range []int{-1, -128, impl.MaxNumber + 1, math.MaxInt, math.MinInt} {
		if s, ok := impl.VarText(n); ok || s != "" {
			t.Errorf("VarText(%d) = %q, %v; want empty, false", n, s, ok)
		}
	}
}

func TestVarIsReadBack(t *testing.T) {
	for _, n := range varNumbers {
		s, _ := impl.VarText(n)
		for _, ahead := range []string{"", "\x80", "\x00\xff\x05"} {
			for _, behind := range []string{"", "\x00", "\xff", "\x01\x80"} {
				text, at := ahead+s+behind, len(ahead)
				got, end, ok := impl.ReadVar(text, at)
				if !ok || got != n || end != at+len(s) {
					t.Errorf("ReadVar(%q, %d) = %d, %d, %v; want %d, %d, true", text, at, got, end, ok, n, at+len(s))
				}
			}
		}
	}
}

func TestVarIsReadBackThroughout(t *testing.T) {
	for n := 0; n <= impl.MaxNumber; n += 1 + n/3000 {
		s, ok := impl.VarText(n)
		got, end, right := impl.ReadVar(s, 0)
		if !ok || !right || got != n || end != len(s) {
			t.Fatalf("%d is %q, %v, and read as %d, %d, %v", n, s, ok, got, end, right)
		}
	}
}

func TestReadVarRefusesLongerForms(t *testing.T) {
	for _, text := range []string{
		"\x80\x00", "\x81\x00", "\xff\x00", "\x80\x80\x00", "\xac\x82\x00",
		"\x80\x80\x80\x00", "\x80\x80\x80\x80\x00", "\x80\x94\xeb\xdc\x83\x00",
		"\x81\x80\x80\x80\x80\x00", strings.Repeat("\x80", 12) + "\x00",
	} {
		refuseVar(t, text, 0)
		refuseVar(t, "\x05"+text+"\x05", 1)
	}
}

func TestReadVarRefusesNumbersThatAreTooGreat(t *testing.T) {
	for _, text := range []string{
		"\x81\x94\xeb\xdc\x03", "\x80\x94\xeb\xdc\x04", "\xff\xff\xff\xff\x7f", "\x80\x80\x80\x80\x04",
		"\x80\x80\x80\x80\x80\x01", strings.Repeat("\xff", 8) + "\x7f",
	} {
		refuseVar(t, text, 0)
	}
	// Units that wrap round must not bring a small number back.
	for i := 5; i < 80; i++ {
		refuseVar(t, strings.Repeat("\x80", i)+"\x01", 0)
		refuseVar(t, "\x81"+strings.Repeat("\x80", i)+"\x02", 0)
	}
}

func TestReadVarRefusesNumbersThatEndInTheMiddle(t *testing.T) {
	for _, n := range varNumbers {
		s, _ := impl.VarText(n)
		for i := range len(s) {
			refuseVar(t, s[:i], 0)
		}
	}
	refuseVar(t, "\x05\x80", 1)
	refuseVar(t, strings.Repeat("\xff", 100), 0)
}

func TestReadVarAtPlaces(t *testing.T) {
	const text = "\x07\x08\x09"
	for at := range len(text) {
		if n, end, ok := impl.ReadVar(text, at); !ok || n != 7+at || end != at+1 {
			t.Errorf("ReadVar(%q, %d) = %d, %d, %v", text, at, n, end, ok)
		}
	}
	for _, at := range append([]int{len(text), len(text) + 1}, wrongPlaces...) {
		refuseVar(t, text, at)
	}
	for _, at := range append([]int{0, 1}, wrongPlaces...) {
		refuseVar(t, "", at)
	}
}

// readVarPlainly tries every end that a number could have, and takes the one that VarText writes.
func readVarPlainly(text string) (int, int, bool) {
	n, unit := 0, 1
	for i := range min(len(text), 6) {
		n += int(text[i]&127) * unit
		unit *= 128
		if s, ok := impl.VarText(n); ok && s == text[:i+1] {
			return n, i + 1, true
		}
	}
	return 0, 0, false
}

func TestReadVarTakesJustWhatVarTextWrites(t *testing.T) {
	alphabet := "\x00\x01\x03\x04\x7f\x80\x81\xff"
	texts := []string{""}
	for size := 1; size <= 6; size++ {
		var longer []string
		for _, s := range texts {
			for i := range len(alphabet) {
				longer = append(longer, s+alphabet[i:i+1])
			}
		}
		texts = longer
		for _, s := range texts {
			n, end, ok := impl.ReadVar(s, 0)
			wantN, wantEnd, want := readVarPlainly(s)
			if n != wantN || end != wantEnd || ok != want {
				t.Fatalf("ReadVar(%q, 0) = %d, %d, %v; want %d, %d, %v", s, n, end, ok, wantN, wantEnd, want)
			}
		}
	}
}

func TestShortTextWritesItsBytes(t *testing.T) {
	for _, c := range []struct{ s, head string }{
		{"", "\x00"},
		{"a", "\x01"},
		{"\x00\xff", "\x02"},
		{strings.Repeat("b", 127), "\x7f"},
		{strings.Repeat("c", 128), "\x80\x01"},
		{strings.Repeat("d", impl.MaxText), "\xa0\x9c\x01"},
	} {
		if got, ok := impl.ShortText(c.s); !ok || got != c.head+c.s {
			t.Errorf("ShortText of %d bytes is wrong, or refused", len(c.s))
		}
	}
	if got, ok := impl.ShortText(strings.Repeat("e", impl.MaxText+1)); ok || got != "" {
		t.Errorf("ShortText of MaxText and 1 bytes = %d bytes, %v", len(got), ok)
	}
}

func TestShortIsReadBack(t *testing.T) {
	for _, s := range []string{
		"", "a", "\x00", "\x80\x00", allBytes(), "größe", strings.Repeat("x", 127), strings.Repeat("y", 128),
		strings.Repeat("v", impl.MaxText-1), strings.Repeat("w", impl.MaxText),
	} {
		short, _ := impl.ShortText(s)
		for _, ahead := range []string{"", "\xff\x00"} {
			for _, behind := range []string{"", "\x00", "more"} {
				got, end, ok := impl.ReadShort(ahead+short+behind, len(ahead))
				if !ok || got != s || end != len(ahead)+len(short) {
					t.Errorf("a short text of %d bytes is read as %d bytes, %d, %v", len(s), len(got), end, ok)
				}
			}
		}
	}
}

func TestReadShortRefusesWhatIsCutOff(t *testing.T) {
	short, _ := impl.ShortText(strings.Repeat("z", 130))
	for i := range len(short) {
		refuseShort(t, short[:i], 0)
	}
	full, _ := impl.ShortText(strings.Repeat("z", impl.MaxText))
	refuseShort(t, full[:len(full)-1], 0)
	// The bytes ahead of the place do not make up for what is missing.
	refuseShort(t, "abc\x02d", 3)
}

func TestReadShortRefusesOtherHeads(t *testing.T) {
	tooLong, _ := impl.VarText(impl.MaxText + 1)
	most, _ := impl.VarText(impl.MaxNumber)
	refuseShort(t, tooLong+strings.Repeat("a", impl.MaxText+1), 0)
	refuseShort(t, most+"a", 0)
	refuseShort(t, "\x80\x00", 0)
	refuseShort(t, "\x81\x00a", 0)
	refuseShort(t, "\x80", 0)
	refuseShort(t, "\xff\xff\xff\xff\xff\xff\xff\xff\x7fa", 0)
}

func TestReadShortAtPlaces(t *testing.T) {
	const text = "\x01\x01\x01"
	for at, want := range []string{"\x01", "\x01"} {
		if s, end, ok := impl.ReadShort(text, at); !ok || s != want || end != at+2 {
			t.Errorf("ReadShort(%q, %d) = %q, %d, %v", text, at, s, end, ok)
		}
	}
	for _, at := range append([]int{2, 3, 4}, wrongPlaces...) {
		refuseShort(t, text, at)
	}
	for _, at := range append([]int{0, 1}, wrongPlaces...) {
		refuseShort(t, "", at)
	}
	if s, end, ok := impl.ReadShort("a\x00", 1); !ok || s != "" || end != 2 {
		t.Errorf("an empty text at the end = %q, %d, %v", s, end, ok)
	}
}

func TestHexWritesItsFigures(t *testing.T) {
	for s, want := range map[string]string{
		"":                 "",
		"\x00":             "00",
		"\x0f\xf0":         "0ff0",
		"\x12\x34\xab\xcd": "1234abcd",
		"az\xff":           "617aff",
	} {
		if got, ok := impl.Hex(s); !ok || got != want {
			t.Errorf("Hex(%q) = %q, %v; want %q, true", s, got, ok, want)
		}
	}
	if got, ok := impl.Hex(strings.Repeat("\xe9", impl.MaxText)); !ok || got != strings.Repeat("e9", impl.MaxText) {
		t.Error("Hex of MaxText bytes")
	}
	if got, ok := impl.Hex(strings.Repeat("\xe9", impl.MaxText+1)); ok || got != "" {
		t.Errorf("Hex of MaxText and 1 bytes = %d bytes, %v", len(got), ok)
	}
}

func TestHexIsReadBack(t *testing.T) {
	for _, s := range []string{"", "\x00", "a", allBytes(), strings.Repeat("\x9a", impl.MaxText)} {
		h, _ := impl.Hex(s)
		if got, ok := impl.Unhex(h); !ok || got != s {
			t.Errorf("Hex of %d bytes is read as %d bytes, %v", len(s), len(got), ok)
		}
	}
}

func TestUnhexRefuses(t *testing.T) {
	for _, s := range []string{
		"0", "abc", "A0", "0A", "aF", "FF", "0g", "g0", "0x", "0x10", "-1", "+1", " 1", "1 ", "00 0", "00\n0", "é",
		strings.Repeat("00", impl.MaxText+1), strings.Repeat("0", 2*impl.MaxText-1), strings.Repeat("0", 2*impl.MaxText+1),
	} {
		if got, ok := impl.Unhex(s); ok || got != "" {
			t.Errorf("Unhex of %d bytes that begin with %.8q = %d bytes, %v", len(s), s, len(got), ok)
		}
	}
}

func TestUnhexTakesJustItsFigures(t *testing.T) {
	for c := range 256 {
		worth := strings.IndexByte("0123456789abcdef", byte(c))
		one := string([]byte{byte(c)})
		got, ok := impl.Unhex(one + "5")
		other, right := impl.Unhex("5" + one)
		if worth < 0 {
			if ok || right || got != "" || other != "" {
				t.Errorf("the byte %d is taken as a figure", c)
			}
			continue
		}
		if !ok || !right || got != string([]byte{byte(16*worth + 5)}) || other != string([]byte{byte(5*16 + worth)}) {
			t.Errorf("the figure %q is read as %q and %q, %v and %v", one, got, other, ok, right)
		}
	}
}

func TestDecimalWritesItsFigures(t *testing.T) {
	for n, want := range map[int]string{
		0: "0", 7: "7", 10: "10", 100: "100", -1: "-1", -5: "-5", -10: "-10", 305: "305",
		impl.MaxNumber: "1000000000", impl.MaxNumber + 1: "1000000001", -impl.MaxNumber: "-1000000000",
		math.MaxInt: "9223372036854775807", math.MinInt: "-9223372036854775808", math.MinInt + 1: "-9223372036854775807",
	} {
		if got := impl.Decimal(n); got != want {
			t.Errorf("Decimal(%d) = %q; want %q", n, got, want)
		}
	}
}

func TestDecimalIsReadBack(t *testing.T) {
	for n := 0; n <= impl.MaxNumber; n += 1 + n/3000 {
		if got, ok := impl.ReadDecimal(impl.Decimal(n)); !ok || got != n {
			t.Fatalf("Decimal of %d is read as %d, %v", n, got, ok)
		}
	}
	for _, n := range varNumbers {
		if got, ok := impl.ReadDecimal(impl.Decimal(n)); !ok || got != n {
			t.Errorf("Decimal of %d is read as %d, %v", n, got, ok)
		}
	}
}

func TestReadDecimalRefuses(t *testing.T) {
	for _, s := range []string{
		"", "00", "01", "007", "-0", "-1", "+1", "+0", "-", "+", " 1", "1 ", "1 2", "1.", "1.0", "1e3", "1_0", "0x1", "a", "1a", "a1", "f",
		"1000000001", "1999999999", "9999999999", "01000000000", "10000000000", "00000000001",
		"9223372036854775808", "18446744073709551616", "18446744073709551617", "-9223372036854775808",
		"\x00", "1\x00", "１", "٣", strings.Repeat("0", 40), strings.Repeat("9", 30000), "1" + strings.Repeat("0", 64),
	} {
		if n, ok := impl.ReadDecimal(s); ok || n != 0 {
			t.Errorf("ReadDecimal(%.30q) = %d, %v; want 0, false", s, n, ok)
		}
	}
	for c := range 256 {
		one := string([]byte{byte(c)})
		n, ok := impl.ReadDecimal(one)
		if figure := c >= '0' && c <= '9'; ok != figure || ok && n != c-'0' || !ok && n != 0 {
			t.Errorf("ReadDecimal(%q) = %d, %v", one, n, ok)
		}
	}
}

func TestPartsOfLines(t *testing.T) {
	for _, c := range []struct {
		line string
		want []string
	}{
		{"", nil},
		{" ", nil},
		{"     ", nil},
		{"tick", []string{"tick"}},
		{" tick  1 2 ", []string{"tick", "1", "2"}},
		{"a b c", []string{"a", "b", "c"}},
		{"   a", []string{"a"}},
		{"a   ", []string{"a"}},
		{"b a b", []string{"b", "a", "b"}},
		{"!\"#$%&'()*+,-./ :;<=>?@ [\\]^_` {|}~", []string{"!\"#$%&'()*+,-./", ":;<=>?@", "[\\]^_`", "{|}~"}},
		{"0 1 2 3 4 5 6 7 8 9", []string{"0", "1", "2", "3", "4", "5", "6", "7", "8", "9"}},
		{"  0 1 2 3 4  5 6 7 8 9  ", []string{"0", "1", "2", "3", "4", "5", "6", "7", "8", "9"}},
		{strings.Repeat("a", impl.MaxWords), []string{strings.Repeat("a", impl.MaxWords)}},
		{strings.Repeat(" ", impl.MaxWords), nil},
		{strings.Repeat(" ", impl.MaxWords-1) + "z", []string{"z"}},
	} {
		if got, ok := impl.PartsOf(c.line); !ok || !slices.Equal(got, c.want) {
			t.Errorf("PartsOf(%.40q) = %q, %v; want %q, true", c.line, got, ok, c.want)
		}
	}
}

func TestPartsOfRefuses(t *testing.T) {
	for _, line := range []string{
		"0 1 2 3 4 5 6 7 8 9 a",
		"  0 1 2 3 4 5 6 7 8 9  a  ",
		strings.Repeat("a", impl.MaxWords+1),
		strings.Repeat(" ", impl.MaxWords+1),
		strings.Repeat(" a", impl.MaxWords/2),
		"a\tb", "a\n", "\r", "a\x00", "größe", "a\u00a0b", "\x7f",
	} {
		if got, ok := impl.PartsOf(line); ok || len(got) != 0 {
			t.Errorf("PartsOf(%.40q) = %q, %v; want nothing, false", line, got, ok)
		}
	}
}

func TestPartsOfTakesJustItsBytes(t *testing.T) {
	for c := range 256 {
		one := string([]byte{byte(c)})
		for _, line := range []string{one, "ab" + one, one + "ab", "a " + one + " b"} {
			got, ok := impl.PartsOf(line)
			if want := c >= 32 && c <= 126; ok != want || !ok && len(got) != 0 {
				t.Errorf("PartsOf(%q) = %q, %v", line, got, ok)
			}
			if c > 32 && c <= 126 && strings.Join(got, " ") != line {
				t.Errorf("PartsOf(%q) = %q", line, got)
			}
		}
	}
}

func TestPartsAreNewEachTime(t *testing.T) {
	const line = "a b"
	first, _ := impl.PartsOf(line)
	first[0] = "x"
	_ = append(first[:1], "y")
	if second, ok := impl.PartsOf(line); !ok || !slices.Equal(second, []string{"a", "b"}) {
		t.Errorf("PartsOf(%q) = %q, %v behind a change of what it answered", line, second, ok)
	}
}
