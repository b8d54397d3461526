package tests

import (
	"crypto/sha256"
	"math/big"
	"slices"
	"strings"
	"testing"

	"loop.example/g00474/impl"
)

// Lengths about the ends of blocks, and about those of what is left for the length itself.
var blockLengths = []int{
	0, 1, 2, 3, 54, 55, 56, 57, 62, 63, 64, 65, 66, 118, 119, 120, 121, 127, 128, 129, 183, 184, 191, 192, 193, 255, 256, 257, 1000, 8191, 8192, 8193, 20000, 60001,
}

func firstPrimes(count int) []int64 {
	var primes []int64
	for n := int64(2); len(primes) < count; n++ {
		if !slices.ContainsFunc(primes, func(p int64) bool { return n%p == 0 }) {
			primes = append(primes, n)
		}
	}
	return primes
}

// rootWord is the first 32 bits behind the point of the root of p, of that power.
func rootWord(p int64, power int64) uint32 {
	scaled := new(big.Int).Lsh(big.NewInt(p), uint(32*power))
	root := new(big.Int)
	for bit := 63; bit >= 0; bit-- {
		root.SetBit(root, bit, 1)
		if new(big.Int).Exp(root, big.NewInt(power), nil).Cmp(scaled) > 0 {
			root.SetBit(root, bit, 0)
		}
	}
	return uint32(root.Uint64())
}

func startPlainly() []int {
	var start []int
	for _, p := range firstPrimes(8) {
		start = append(start, int(rootWord(p, 2)))
	}
	return start
}

func turnWords() []uint32 {
	var words []uint32
	for _, p := range firstPrimes(64) {
		words = append(words, rootWord(p, 3))
	}
	return words
}

func rightBy(x uint32, by int) uint32 { return x>>by | x<<(32-by) }

// shaPlainly is one block as the standard tells it, all words of it and every number moved on.
func shaPlainly(state []int, block string, turns []uint32) []int {
	var w [64]uint32
	for i := range 64 {
		if i < 16 {
			w[i] = uint32(block[4*i])<<24 | uint32(block[4*i+1])<<16 | uint32(block[4*i+2])<<8 | uint32(block[4*i+3])
			continue
		}
		s0 := rightBy(w[i-15], 7) ^ rightBy(w[i-15], 18) ^ w[i-15]>>3
		s1 := rightBy(w[i-2], 17) ^ rightBy(w[i-2], 19) ^ w[i-2]>>10
		w[i] = w[i-16] + s0 + w[i-7] + s1
	}
	var v [8]uint32
	for i := range v {
		v[i] = uint32(state[i])
	}
	for i := range 64 {
		a, b, c, e, f, g := v[0], v[1], v[2], v[4], v[5], v[6]
		t1 := v[7] + (rightBy(e, 6) ^ rightBy(e, 11) ^ rightBy(e, 25)) + (e&f | ^e&g) + turns[i] + w[i]
		t2 := (rightBy(a, 2) ^ rightBy(a, 13) ^ rightBy(a, 22)) + (a&b | a&c | b&c)
		v = [8]uint32{t1 + t2, v[0], v[1], v[2], v[3] + t1, v[4], v[5], v[6]}
	}
	next := make([]int, 8)
	for i := range next {
		next[i] = (state[i] + int(v[i])) % 4294967296
	}
	return next
}

func inFourBytes(numbers []int) string {
	var b []byte
	for _, n := range numbers {
		b = append(b, byte(n>>24), byte(n>>16), byte(n>>8), byte(n))
	}
	return string(b)
}

func digestByLibrary(text string) string {
	d := sha256.Sum256([]byte(text))
	return string(d[:])
}

// rightStates have every number at its ends, one at a time and all together, and others between.
func rightStates() [][]int {
	states := [][]int{impl.ShaStart(), make([]int, 8), slices.Repeat([]int{4294967295}, 8), {0, 1, 2, 3, 4, 5, 6, 7}}
	for i := range 8 {
		for _, n := range []int{0, 1, 2147483647, 2147483648, 4294967294, 4294967295} {
			state := impl.ShaStart()
			state[i] = n
			states = append(states, state)
		}
	}
	return states
}

func rightBlocks() []string {
	return []string{
		strings.Repeat("\x00", 64), strings.Repeat("\xff", 64), strings.Repeat("a", 64), manyBytes(64), manyBytes(1000)[500:564], impl.PadText(""), impl.PadText("abc"),
	}
}

// asItIs holds that ShaBlock answers the state it was given, in memory of its own.
func asItIs(t *testing.T, state []int, block string, why string) {
	t.Helper()
	before := slices.Clone(state)
	got := impl.ShaBlock(state, block)
	if !slices.Equal(got, before) {
		t.Errorf("ShaBlock(%v, %d bytes) = %v; want the state as it is: %s", before, len(block), got, why)
	}
	for i := range got {
		got[i] = -7
	}
	_ = append(got, -7)
	if !slices.Equal(state, before) {
		t.Errorf("ShaBlock(%v, %d bytes) answers the memory of its state: %s", before, len(block), why)
	}
}

func TestDigestsThatAreKnown(t *testing.T) {
	for _, c := range []struct {
		text, want string
	}{
		{"", "e3b0c44298fc1c149afbf4c8996fb92427ae41e4649b934ca495991b7852b855"},
		{"a", "ca978112ca1bbdcafac231b39a23dc4da786eff8147c4e72b9807785afee48bb"},
		{"abc", "ba7816bf8f01cfea414140de5dae2223b00361a396177a9cb410ff61f20015ad"},
		{"abcdbcdecdefdefgefghfghighijhijkijkljklmklmnlmnomnopnopq", "248d6a61d20638b8e5c026930c3e6039a33ce45964ff2167f6ecedd419db06c1"},
		{"abcdefghbcdefghicdefghijdefghijkefghijklfghijklmghijklmnhijklmnoijklmnopjklmnopqklmnopqrlmnopqrsmnopqrstnopqrstu", "cf5b16a778af8380036ce59e7b0492370b249b11e8f07a51afac45037afee9d1"},
		{strings.Repeat("a", 1000000), "cdc76e5c9914fb9281a1c7e284d73e67f1809a48a497200e046d39ccc7112cd0"},
	} {
		if got := impl.DigestHex(c.text); got != c.want {
			t.Errorf("DigestHex of %d bytes = %s; want %s", len(c.text), got, c.want)
		}
	}
}

func TestDigestIsThatOfItsText(t *testing.T) {
	for size := range 400 {
		for _, text := range []string{manyBytes(size), strings.Repeat("\x00", size), strings.Repeat("\xff", size), strings.Repeat("\x80", size)} {
			if got := impl.Digest(text); got != digestByLibrary(text) {
				t.Errorf("Digest of %d bytes = %x", size, got)
			}
		}
	}
	for _, size := range blockLengths {
		text := manyBytes(size)
		if got := impl.Digest(text); got != digestByLibrary(text) {
			t.Errorf("Digest of %d bytes = %x", size, got)
		}
	}
	for c := range 256 {
		if one := string([]byte{byte(c)}); impl.Digest(one) != digestByLibrary(one) {
			t.Errorf("Digest(%q) = %x", one, impl.Digest(one))
		}
	}
}

func TestDigestGoesBlockByBlock(t *testing.T) {
	for _, size := range blockLengths {
		text := manyBytes(size)
		padded := impl.PadText(text)
		state := impl.ShaStart()
		for at := 0; at+64 <= len(padded); at += 64 {
			state = impl.ShaBlock(state, padded[at:at+64])
		}
		if got := impl.Digest(text); got != inFourBytes(state) {
			t.Errorf("%d bytes, block by block: %x; Digest: %x", size, inFourBytes(state), got)
		}
	}
}

func TestTextsThatDifferHaveOtherDigests(t *testing.T) {
	seen := map[string]int{}
	texts := []string{"", "\x00", "\x80", "\x80\x00", "\x00\x00"}
	for _, size := range []int{55, 56, 63, 64, 65, 119, 120, 128} {
		text := manyBytes(size)
		texts = append(texts, text, text+"\x00", text+"\x80", text+"\x80\x00", impl.PadText(text))
		for at := range size {
			texts = append(texts, turned(text, at, text[at]^1))
		}
	}
	for i, text := range slices.Compact(slices.Sorted(slices.Values(texts))) {
		d := impl.Digest(text)
		if before, ok := seen[d]; ok {
			t.Errorf("texts %d and %d have one digest", before, i)
		}
		seen[d] = i
	}
}

func TestPadTextOfKnownTexts(t *testing.T) {
	for _, c := range []struct {
		text, want string
	}{
		{"", "\x80" + strings.Repeat("\x00", 63)},
		{"abc", "abc\x80" + strings.Repeat("\x00", 59) + "\x18"},
		{strings.Repeat("a", 54), strings.Repeat("a", 54) + "\x80\x00" + "\x00\x00\x00\x00\x00\x00\x01\xb0"},
		{strings.Repeat("a", 55), strings.Repeat("a", 55) + "\x80" + "\x00\x00\x00\x00\x00\x00\x01\xb8"},
		{strings.Repeat("a", 56), strings.Repeat("a", 56) + "\x80" + strings.Repeat("\x00", 63) + "\x00\x00\x00\x00\x00\x00\x01\xc0"},
		{strings.Repeat("a", 63), strings.Repeat("a", 63) + "\x80" + strings.Repeat("\x00", 56) + "\x00\x00\x00\x00\x00\x00\x01\xf8"},
		{strings.Repeat("a", 64), strings.Repeat("a", 64) + "\x80" + strings.Repeat("\x00", 55) + "\x00\x00\x00\x00\x00\x00\x02\x00"},
		{strings.Repeat("a", 65), strings.Repeat("a", 65) + "\x80" + strings.Repeat("\x00", 54) + "\x00\x00\x00\x00\x00\x00\x02\x08"},
	} {
		if got := impl.PadText(c.text); got != c.want {
			t.Errorf("PadText of %d bytes = %x; want %x", len(c.text), got, c.want)
		}
	}
}

func TestPadTextComesToWholeBlocks(t *testing.T) {
	lengths := append([]int{1 << 21, 1<<21 + 55, 1<<24 + 3}, blockLengths...)
	for size := range 300 {
		lengths = append(lengths, size)
	}
	for _, size := range lengths {
		text := manyBytes(size)
		got := impl.PadText(text)
		if len(got)%64 != 0 || len(got) < size+9 || len(got) >= size+9+64 {
			t.Errorf("%d bytes are padded to %d", size, len(got))
			continue
		}
		bits := 8 * size
		end := string([]byte{0, 0, 0, byte(bits >> 32), byte(bits >> 24), byte(bits >> 16), byte(bits >> 8), byte(bits)})
		if want := text + "\x80" + strings.Repeat("\x00", len(got)-size-9) + end; got != want {
			t.Errorf("%d bytes are padded otherwise than the document says", size)
		}
	}
}

func TestShaStartIsWhereItBegins(t *testing.T) {
	want := []int{1779033703, 3144134277, 1013904242, 2773480762, 1359893119, 2600822924, 528734635, 1541459225}
	if got := impl.ShaStart(); !slices.Equal(got, want) || !slices.Equal(got, startPlainly()) {
		t.Errorf("ShaStart() = %v; want %v", got, want)
	}
}

func TestShaStartIsNewEachTime(t *testing.T) {
	first := impl.ShaStart()
	for i := range first {
		first[i] = i
	}
	_ = append(first[:4], 9, 9, 9, 9, 9)
	if got := impl.ShaStart(); !slices.Equal(got, startPlainly()) {
		t.Errorf("ShaStart, after its first answer was written into, = %v", got)
	}
	if impl.Digest("abc") != digestByLibrary("abc") {
		t.Error("Digest begins with what an answer of ShaStart was turned into")
	}
}

func TestShaBlockOfRightStates(t *testing.T) {
	turns := turnWords()
	for _, state := range rightStates() {
		for _, block := range rightBlocks() {
			before := slices.Clone(state)
			got := impl.ShaBlock(state, block)
			if want := shaPlainly(before, block, turns); !slices.Equal(got, want) {
				t.Errorf("ShaBlock(%v, %x) = %v; want %v", before, block, got, want)
			}
			for i := range got {
				got[i] = -7
			}
			if !slices.Equal(state, before) {
				t.Fatalf("ShaBlock changed its state %v, or answered its memory", before)
			}
		}
	}
}

func TestShaBlockHangsOnEveryByte(t *testing.T) {
	turns := turnWords()
	block := manyBytes(64)
	whole := impl.ShaBlock(impl.ShaStart(), block)
	for at := range block {
		for bit := range 8 {
			other := turned(block, at, block[at]^1<<bit)
			got := impl.ShaBlock(impl.ShaStart(), other)
			if slices.Equal(got, whole) || !slices.Equal(got, shaPlainly(startPlainly(), other, turns)) {
				t.Errorf("byte %d, bit %d turned: %v", at, bit, got)
			}
		}
	}
}

func TestShaBlockGoesOn(t *testing.T) {
	turns := turnWords()
	state, want := impl.ShaStart(), startPlainly()
	for i := range 200 {
		block := manyBytes(1000)[i : i+64]
		state, want = impl.ShaBlock(state, block), shaPlainly(want, block, turns)
		if !slices.Equal(state, want) {
			t.Fatalf("block %d: %v; want %v", i, state, want)
		}
		for _, n := range state {
			if n < 0 || n > 4294967295 {
				t.Fatalf("block %d leaves %d, which is no number of 32 bits", i, n)
			}
		}
	}
}

func TestShaBlockLeavesWrongStatesAsTheyAre(t *testing.T) {
	block := manyBytes(64)
	for _, state := range [][]int{nil, {}, {1}, {1, 2, 3, 4, 5, 6, 7}, {1, 2, 3, 4, 5, 6, 7, 8, 9}, make([]int, 16), make([]int, 64)} {
		asItIs(t, state, block, "not eight numbers")
	}
	for i := range 8 {
		for _, n := range []int{-1, -4294967296, -4294967295, 4294967296, 4294967297, 1 << 62, -1 << 63, 1<<63 - 1} {
			state := impl.ShaStart()
			state[i] = n
			asItIs(t, state, block, "a number that is not of 32 bits")
			asItIs(t, state, block[1:], "neither a state nor a block")
		}
	}
}

func TestShaBlockLeavesTheStateForWrongBlocks(t *testing.T) {
	for _, size := range []int{0, 1, 4, 32, 55, 56, 60, 63, 65, 68, 127, 128, 192, 20000} {
		asItIs(t, impl.ShaStart(), manyBytes(size), "not a block")
		asItIs(t, make([]int, 8), manyBytes(size), "not a block")
		asItIs(t, []int{1, 2, 3}, manyBytes(size), "neither a state nor a block")
	}
}

func TestShaBlockKeepsToItsOwnMemory(t *testing.T) {
	room := make([]int, 16)
	for i := range room {
		room[i] = 100 + i
	}
	before := slices.Clone(room)
	for _, block := range []string{manyBytes(64), manyBytes(63)} {
		for _, size := range []int{7, 8, 9} {
			first := impl.ShaBlock(room[:size], block)
			kept := slices.Clone(first)
			second := impl.ShaBlock(room[:size], block)
			_ = append(second[:0], -1, -1, -1, -1, -1, -1, -1, -1, -1, -1)
			for i := range second {
				second[i] = -1
			}
			if !slices.Equal(room, before) {
				t.Fatalf("%d numbers and %d bytes: written into the state, or into the room behind it", size, len(block))
			}
			if !slices.Equal(first, kept) {
				t.Errorf("%d numbers and %d bytes: two answers share memory", size, len(block))
			}
		}
	}
}

func TestDigestHexIsHexOfDigest(t *testing.T) {
	for _, size := range blockLengths {
		text := manyBytes(size)
		want, ok := impl.Hex(impl.Digest(text))
		if got := impl.DigestHex(text); !ok || got != want || len(got) != 2*impl.DigestSize {
			t.Errorf("DigestHex of %d bytes = %q; want %q", size, got, want)
		}
	}
}

func TestCutDigestIsTheBeginningOfDigest(t *testing.T) {
	for _, size := range blockLengths {
		text := manyBytes(size)
		whole := digestByLibrary(text)
		for w := 1; w <= impl.DigestSize; w++ {
			if got := impl.CutDigest(text, w); got != whole[:w] {
				t.Errorf("CutDigest(%d bytes, %d) = %x; want %x", size, w, got, whole[:w])
			}
		}
	}
}

func TestCutDigestRefusesOtherWidths(t *testing.T) {
	for _, text := range []string{"", "abc", manyBytes(64)} {
		for _, w := range []int{0, -1, -2, -32, -33, 33, 34, 64, 256, 1 << 32, 1<<32 + 1, 1<<63 - 1, -1 << 63} {
			if got := impl.CutDigest(text, w); got != "" {
				t.Errorf("CutDigest(%d bytes, %d) = %x; want nothing", len(text), w, got)
			}
		}
	}
}

func TestSizesOfDigests(t *testing.T) {
	if impl.DigestSize != 32 || impl.BlockSize != 64 || len(impl.Digest("")) != 32 {
		t.Errorf("DigestSize %d, BlockSize %d, a digest of %d bytes", impl.DigestSize, impl.BlockSize, len(impl.Digest("")))
	}
}
