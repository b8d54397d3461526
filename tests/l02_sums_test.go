package tests

import (
	"strings"
	"testing"

	"loop.example/g00474/impl"
)

// Sums from which SumMore may go on: the ends, odd and even ones, and those with a single bit or half of them.
var startSums = []uint32{
	0, 1, 2, 3, 4294967295, 4294967294, 2147483648, 2147483647, 3558460437, 3558460436, 0x55555555, 0xaaaaaaaa, 0x000000ff, 0xff000000,
}

// sumPlainly goes bit by bit, in the document's words.
func sumPlainly(sum uint32, text string) uint32 {
	for i := range len(text) {
		sum ^= uint32(text[i])
		for range 8 {
			odd := sum%2 == 1
			sum /= 2
			if odd {
				sum ^= 3558460437
			}
		}
	}
	return sum
}

// sumTexts are of many lengths, the bytes of the longer ones no two neighbours alike.
func sumTexts() []string {
	texts := []string{
		"", "\x00", "\xff", "a", "\x00\x00", "\x00\xff", "\xff\x00", "abc", "\x00\x00\x00\x00", "\xff\xff\xff\xff", "123456789", allBytes(),
	}
	return append(texts, manyBytes(1000), manyBytes(impl.MaxText-1), manyBytes(impl.MaxText))
}

func manyBytes(size int) string {
	b := make([]byte, size)
	for i := range b {
		b[i] = byte(i*7 + i/256*13 + 1)
	}
	return string(b)
}

func turned(text string, at int, to byte) string {
	b := []byte(text)
	b[at] = to
	return string(b)
}

func exchanged(text string, i int, j int) string {
	b := []byte(text)
	b[i], b[j] = b[j], b[i]
	return string(b)
}

func mustSeal(t *testing.T, text string) string {
	t.Helper()
	s, ok := impl.Sealed(text)
	if !ok {
		t.Fatalf("Sealed refuses %d bytes", len(text))
	}
	return s
}

func refuseUnsealed(t *testing.T, text string, why string) {
	t.Helper()
	if got, ok := impl.Unsealed(text); ok || got != "" {
		t.Errorf("Unsealed of %d bytes = %d bytes, %v; want empty, false: %s", len(text), len(got), ok, why)
	}
}

func TestSumsThatAreKnown(t *testing.T) {
	for _, c := range []struct {
		text string
		want uint32
	}{
		{"", 4294967295},
		{"\x00", 2175125468},
		{"\xff", 16777215},
		{"a", 2675860630},
		{"abc", 2815232641},
		{"123456789", 2026809993},
		{"\x00\x00\x00\x00", 1160185169},
		{"\xff\xff\xff\xff", 0},
	} {
		if got := impl.SumOf(c.text); got != c.want {
			t.Errorf("SumOf(%q) = %d; want %d", c.text, got, c.want)
		}
	}
	for _, c := range []struct {
		sum  uint32
		text string
		want uint32
	}{
		{0, "", 0},
		{7, "", 7},
		{0, "\x00", 0},
		{0, "\x80", 3558460437},
		{0, "\xff", 2170173475},
		{0, "abc", 157603473},
		{256, "\x00", 1},
		{4294967040, "\x00", 16777215},
		{4294967295, "\xff", 16777215},
		{1160185169, "", 1160185169},
	} {
		if got := impl.SumMore(c.sum, c.text); got != c.want {
			t.Errorf("SumMore(%d, %q) = %d; want %d", c.sum, c.text, got, c.want)
		}
	}
}

func TestSumMoreOfEveryByte(t *testing.T) {
	for _, sum := range startSums {
		for c := range 256 {
			one := string([]byte{byte(c)})
			if got, want := impl.SumMore(sum, one), sumPlainly(sum, one); got != want {
				t.Errorf("SumMore(%d, %q) = %d; want %d", sum, one, got, want)
			}
		}
	}
	for bit := range 32 {
		sum := uint32(1) << bit
		if got, want := impl.SumMore(sum, "\x00"), sumPlainly(sum, "\x00"); got != want {
			t.Errorf("SumMore(%d, a nought) = %d; want %d", sum, got, want)
		}
	}
}

func TestSumsOfManyBytes(t *testing.T) {
	// Texts may be longer here than what is sealed.
	for _, text := range append(sumTexts(), manyBytes(3*impl.MaxText)) {
		if got, want := impl.SumOf(text), sumPlainly(4294967295, text); got != want {
			t.Errorf("SumOf %d bytes = %d; want %d", len(text), got, want)
		}
		for _, sum := range startSums {
			if got, want := impl.SumMore(sum, text), sumPlainly(sum, text); got != want {
				t.Errorf("SumMore of %d and %d bytes = %d; want %d", sum, len(text), got, want)
			}
		}
	}
}

func TestSumMoreGoesOnWhereSumOfStopped(t *testing.T) {
	for _, text := range []string{"", "a", "\x00\x00\x00", "123456789", allBytes(), manyBytes(700)} {
		whole := impl.SumOf(text)
		for cut := range len(text) + 1 {
			if got := impl.SumMore(impl.SumOf(text[:cut]), text[cut:]); got != whole {
				t.Fatalf("%d bytes cut at %d come to %d; want %d", len(text), cut, got, whole)
			}
		}
	}
}

func TestSumMoreGoesOnFromAnySum(t *testing.T) {
	text := manyBytes(300)
	for _, sum := range startSums {
		whole := impl.SumMore(sum, text)
		byBytes := sum
		for cut := range len(text) {
			if got := impl.SumMore(impl.SumMore(sum, text[:cut]), text[cut:]); got != whole {
				t.Fatalf("from %d, cut at %d: %d; want %d", sum, cut, got, whole)
			}
			byBytes = impl.SumMore(byBytes, text[cut:cut+1])
		}
		if byBytes != whole {
			t.Errorf("from %d, byte by byte: %d; want %d", sum, byBytes, whole)
		}
	}
}

func TestSealedWritesTheHighestByteFirst(t *testing.T) {
	for text, want := range map[string]string{
		"":                 "\xff\xff\xff\xff",
		"\xff":             "\xff\x00\xff\xff\xff",
		"123456789":        "123456789\x78\xce\xaa\x89",
		"\xff\xff\xff\xff": "\xff\xff\xff\xff\x00\x00\x00\x00",
	} {
		if got := mustSeal(t, text); got != want {
			t.Errorf("Sealed(%q) = %q; want %q", text, got, want)
		}
	}
}

func TestSealedIsUnsealed(t *testing.T) {
	for _, text := range sumTexts() {
		s := mustSeal(t, text)
		if len(s) != len(text)+4 || !strings.HasPrefix(s, text) {
			t.Errorf("%d bytes are sealed as %d others", len(text), len(s))
		}
		if got, ok := impl.Unsealed(s); !ok || got != text {
			t.Errorf("%d bytes, sealed, are unsealed as %d bytes, %v", len(text), len(got), ok)
		}
	}
}

func TestSealedTwiceIsUnsealedTwice(t *testing.T) {
	inner := mustSeal(t, "abc")
	got, ok := impl.Unsealed(mustSeal(t, inner))
	last, right := impl.Unsealed(got)
	if !ok || !right || got != inner || last != "abc" {
		t.Errorf("unsealed once: %q, %v; twice: %q, %v", got, ok, last, right)
	}
}

func TestSealedRefusesWhatIsTooLong(t *testing.T) {
	for _, size := range []int{impl.MaxText + 1, impl.MaxText + 4, impl.MaxText + 5, 3 * impl.MaxText} {
		if got, ok := impl.Sealed(manyBytes(size)); ok || got != "" {
			t.Errorf("Sealed of %d bytes = %d bytes, %v", size, len(got), ok)
		}
	}
}

func TestUnsealedRefusesWhatIsTooLong(t *testing.T) {
	for _, size := range []int{impl.MaxText + 1, impl.MaxText + 2, 3 * impl.MaxText} {
		text := manyBytes(size)
		s := sumPlainly(4294967295, text)
		end := string([]byte{byte(s >> 24), byte(s >> 16), byte(s >> 8), byte(s)})
		refuseUnsealed(t, text+end, "no Sealed is that long")
	}
}

func TestUnsealedOfShortTexts(t *testing.T) {
	for _, text := range []string{"", "\x00", "\xff", "a", "\xff\xff", "ab", "\xff\xff\xff", "abc"} {
		refuseUnsealed(t, text, "no sum is that short")
	}
	if got, ok := impl.Unsealed("\xff\xff\xff\xff"); !ok || got != "" {
		t.Errorf("the empty text, sealed, is unsealed as %q, %v", got, ok)
	}
	for _, text := range []string{"\x00\x00\x00\x00", "abcd", "\xff\xff\xff\xfe", "\x7f\xff\xff\xff", "\x00\xff\xff\xff", "\xff\xff\xff\x00"} {
		refuseUnsealed(t, text, "not the sum of nothing")
	}
}

func TestOneByteTurnedIsTold(t *testing.T) {
	for _, text := range []string{"", "\x00", "\xff", "abc", "123456789", "\x00\x00\x00\x00\x00", "\xff\xff\xff\xff", manyBytes(60)} {
		s := mustSeal(t, text)
		for at := range len(s) {
			for to := range 256 {
				if byte(to) != s[at] {
					refuseUnsealed(t, turned(s, at, byte(to)), "a byte was turned")
				}
			}
		}
	}
}

func TestOneByteTurnedIsToldInLongTexts(t *testing.T) {
	s := mustSeal(t, manyBytes(impl.MaxText))
	for _, at := range []int{0, 1, 255, 256, impl.MaxText / 2, impl.MaxText - 1, impl.MaxText, impl.MaxText + 1, impl.MaxText + 3} {
		for _, flip := range []byte{1, 2, 16, 128, 255} {
			refuseUnsealed(t, turned(s, at, s[at]^flip), "a byte was turned")
		}
	}
}

func TestTwoBytesExchangedAreTold(t *testing.T) {
	for _, text := range []string{"abc", "123456789", manyBytes(60)} {
		s := mustSeal(t, text)
		for i := range len(s) {
			for j := range i {
				if s[i] != s[j] {
					refuseUnsealed(t, exchanged(s, i, j), "two bytes were exchanged")
				}
			}
		}
	}
}

func TestBytesCutOffOrPutBehindAreTold(t *testing.T) {
	for _, text := range []string{"\x00", "abc", "123456789", manyBytes(60)} {
		s := mustSeal(t, text)
		refuseUnsealed(t, s[1:], "the first byte is missing")
		refuseUnsealed(t, s[:len(s)-1], "the last byte is missing")
		refuseUnsealed(t, text, "the sum is missing")
		for c := range 256 {
			one := string([]byte{byte(c)})
			refuseUnsealed(t, s+one, "a byte is behind")
			refuseUnsealed(t, one+s, "a byte is ahead")
		}
	}
}

func TestSumInAnotherOrderIsTold(t *testing.T) {
	for _, text := range []string{"abc", "123456789"} {
		s := mustSeal(t, text)
		end := s[len(text):]
		for order := range 256 {
			other := string([]byte{end[order%4], end[order/4%4], end[order/16%4], end[order/64]})
			if other != end {
				refuseUnsealed(t, text+other, "the bytes of the sum stand in another order")
			}
		}
	}
	// The same sum from another start, or turned round, is none of Sealed's.
	for _, sum := range []uint32{sumPlainly(0, "abc"), ^impl.SumOf("abc")} {
		refuseUnsealed(t, "abc"+string([]byte{byte(sum >> 24), byte(sum >> 16), byte(sum >> 8), byte(sum)}), "another sum")
	}
}
