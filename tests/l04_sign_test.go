package tests

import (
	"encoding/hex"
	"slices"
	"strings"
	"testing"

	"loop.example/g00474/impl"
)

// Texts of Digests that begin with two great and with two small bytes, and two whose Digests begin alike.
const (
	greatText = "30398"
	smallText = "88484"
	alikeText = "157"
	twinText  = "251"
)

var signedTexts = []string{"", "\x00", "a", "abc", "word", greatText, smallText, alikeText}

// Numbers that SecretOf takes, and others, about its limits.
var (
	secretNumbers = []int{0, 1, 127, 128, 1007, 16384, 999999, 1000000}
	wrongNumbers  = []int{-1, -2, -1000000, 1000001, 1000000000, 1 << 32, 1<<63 - 1, -1 << 63}
	wrongLeaves   = []int{-1, -2, -3, -4, -8, 4, 5, 6, 7, 8, 1 << 32, 1<<63 - 1, -1 << 63}
)

func cutPlainly(text string) string { return digestByLibrary(text)[:8] }

func chainPlainly(text string, n int) string {
	if n <= 0 {
		return text
	}
	return cutPlainly("c" + chainPlainly(text, n-1))
}

// varPlainly is for numbers up to 1000000, which take three bytes at most.
func varPlainly(n int) string {
	switch {
	case n < 128:
		return string([]byte{byte(n)})
	case n < 128*128:
		return string([]byte{byte(n%128 + 128), byte(n / 128)})
	}
	return string([]byte{byte(n%128 + 128), byte(n/128%128 + 128), byte(n / 128 / 128)})
}

func secretPlainly(seed int, leaf int, i int) string {
	if min(seed, leaf, i) < 0 || max(seed, leaf, i) > 1000000 {
		return ""
	}
	return cutPlainly("s" + varPlainly(seed) + varPlainly(leaf) + varPlainly(i))
}

func quadsPlainly(text string) []int {
	d := digestByLibrary(text)
	a, b := int(d[0]), int(d[1])
	quads := []int{a / 64, a / 16 % 4, a / 4 % 4, a % 4, b / 64, b / 16 % 4, b / 4 % 4, b % 4}
	missing := 24
	for _, q := range quads {
		missing -= q
	}
	return append(quads, missing/16, missing/4%4, missing%4)
}

func leafKeyPlainly(seed int, leaf int) string {
	tops := ""
	for i := range 11 {
		tops += chainPlainly(secretPlainly(seed, leaf, i), 3)
	}
	return cutPlainly("l" + tops)
}

func pairPlainly(seed int, first int) string {
	return cutPlainly("n" + leafKeyPlainly(seed, first) + leafKeyPlainly(seed, first+1))
}

func keyPlainly(seed int) string {
	return cutPlainly("n" + pairPlainly(seed, 0) + pairPlainly(seed, 2))
}

func signPlainly(seed int, leaf int, text string) impl.Signature {
	s := impl.Signature{Leaf: leaf}
	for i, q := range quadsPlainly(text) {
		s.Ends = append(s.Ends, chainPlainly(secretPlainly(seed, leaf, i), q))
	}
	s.Way = []string{
		leafKeyPlainly(seed, []int{1, 0, 3, 2}[leaf]),
		pairPlainly(seed, []int{2, 2, 0, 0}[leaf]),
	}
	return s
}

// comesTo is the key to which a signature of any form comes, when nobody asks for its form.
func comesTo(text string, s impl.Signature) string {
	tops, quads := "", quadsPlainly(text)
	for i, end := range s.Ends {
		steps := 0
		if i < len(quads) {
			steps = 3 - quads[i]
		}
		tops += chainPlainly(end, steps)
	}
	node := cutPlainly("l" + tops)
	for i, beside := range s.Way {
		if uint(s.Leaf)>>i%2 == 0 {
			node = cutPlainly("n" + node + beside)
		} else {
			node = cutPlainly("n" + beside + node)
		}
	}
	return node
}

func mustSign(t *testing.T, seed int, leaf int, text string) impl.Signature {
	t.Helper()
	s, ok := impl.SignText(seed, leaf, text)
	if !ok {
		t.Fatalf("SignText(%d, %d, %q) refuses", seed, leaf, text)
	}
	return s
}

func copied(s impl.Signature) impl.Signature {
	return impl.Signature{Leaf: s.Leaf, Ends: slices.Clone(s.Ends), Way: slices.Clone(s.Way)}
}

func sameSigns(a impl.Signature, b impl.Signature) bool {
	return a.Leaf == b.Leaf && slices.Equal(a.Ends, b.Ends) && slices.Equal(a.Way, b.Way)
}

// refuseForm holds a signature of another form against the key to which it would come, and against others.
func refuseForm(t *testing.T, seed int, text string, s impl.Signature, why string) {
	t.Helper()
	for _, key := range []string{comesTo(text, s), impl.KeyOf(seed), impl.LeafKey(seed, 0), "", "12345678"} {
		if impl.SignedBy(key, text, s) {
			t.Errorf("SignedBy(%x, %q, %+v) is true: %s", key, text, s, why)
		}
	}
}

func hexOf(list []string) string { return hex.EncodeToString([]byte(strings.Join(list, ""))) }

func TestSizesOfKeys(t *testing.T) {
	if impl.Leaves != 4 || impl.Chains != 11 {
		t.Errorf("Leaves %d, Chains %d", impl.Leaves, impl.Chains)
	}
}

func TestKeysThatAreKnown(t *testing.T) {
	for _, c := range []struct{ what, got, want string }{
		{"ChainOf(abc, 1)", impl.ChainOf("abc", 1), "a6d89baf01ac0263"},
		{"ChainOf(abc, 2)", impl.ChainOf("abc", 2), "c55782c8ace5b05f"},
		{"ChainOf(abc, 3)", impl.ChainOf("abc", 3), "45fd6049346916bc"},
		{"ChainOf(, 3)", impl.ChainOf("", 3), "dedf094bd8ad0f17"},
		{"SecretOf(0, 0, 0)", impl.SecretOf(0, 0, 0), "52e9e3add38bf083"},
		{"SecretOf(1, 2, 3)", impl.SecretOf(1, 2, 3), "5435dffc513915d5"},
		{"SecretOf(1007, 2, 10)", impl.SecretOf(1007, 2, 10), "f5f066088cb4c8d0"},
		{"SecretOf of the highest", impl.SecretOf(1000000, 1000000, 1000000), "ffebc5fde744dbfd"},
		{"LeafKey(0, 0)", impl.LeafKey(0, 0), "f690d5792c6c4ca0"},
		{"LeafKey(1007, 3)", impl.LeafKey(1007, 3), "f26fcd6f1b379980"},
		{"LeafKey of the highest", impl.LeafKey(1000000, 1000000), "ee6775b1272a1875"},
		{"LeafKey(-1, 0)", impl.LeafKey(-1, 0), "e27a12e0b4d81126"},
		{"KeyOf(0)", impl.KeyOf(0), "ad29b5094ccfea9f"},
		{"KeyOf(1007)", impl.KeyOf(1007), "59c94f0f2ae855ff"},
		{"KeyOf(1000000)", impl.KeyOf(1000000), "68a7f6e3588556ce"},
		{"KeyOf(1000001)", impl.KeyOf(1000001), "3d379f1007e310cb"},
	} {
		if hex.EncodeToString([]byte(c.got)) != c.want {
			t.Errorf("%s = %x; want %s", c.what, c.got, c.want)
		}
	}
}

func TestSignaturesThatAreKnown(t *testing.T) {
	for _, c := range []struct {
		leaf      int
		ends, way string
	}{
		{0, "a37c70e23e3d8893b6f80b896715153f547dd72b4e997a5e520f4f467f100fee6163acf1b5d7f929237201e245726143b573b8e782ce71958a6dfc51c4e60557d0155efaeea2d2939545f7626fd965cc4fdcae149fdef654", "9d620864bb075cac2af12fa001812ff2"},
		{3, "61fec505e60ebd8ccb3b759983d83f98ff11937b03789ad829656348b660c3c2dfd2fe13a5679996a1fc792777e56a5fd9d8bcc63210a84c66f6257471840e9964ab9b07d88ba7124c4fca1bf2a87c4f700eeba613b52fde", "96c2d78634797a686b6df24053027aff"},
	} {
		s := mustSign(t, 1007, c.leaf, "word")
		if s.Leaf != c.leaf || hexOf(s.Ends) != c.ends || hexOf(s.Way) != c.way {
			t.Errorf("SignText(1007, %d, word) = %d, %s, %s", c.leaf, s.Leaf, hexOf(s.Ends), hexOf(s.Way))
		}
	}
}

func TestChainGoesOnByDigests(t *testing.T) {
	for _, text := range []string{"", "a", "abc", "12345678", "c", manyBytes(55), manyBytes(64), manyBytes(1000)} {
		for n, want := range map[int]int{
			-1 << 63: 0, -1000: 0, -4: 0, -3: 0, -2: 0, -1: 0, 0: 0, 1: 1, 2: 2, 3: 3, 4: 3, 5: 3, 1000: 3, 1 << 32: 3, 1<<63 - 1: 3,
		} {
			if got := impl.ChainOf(text, n); got != chainPlainly(text, want) {
				t.Errorf("ChainOf(%d bytes, %d) = %x; want that of %d times", len(text), n, got, want)
			}
		}
		for n := range 3 {
			if impl.ChainOf(text, n+1) != impl.ChainOf(impl.ChainOf(text, n), 1) || impl.ChainOf(text, 3) != impl.ChainOf(impl.ChainOf(text, n), 3-n) {
				t.Errorf("ChainOf(%d bytes) does not go on behind %d", len(text), n)
			}
		}
	}
}

func TestQuadsThatAreKnown(t *testing.T) {
	for _, c := range []struct {
		text string
		want []int
	}{
		{"", []int{3, 2, 0, 3, 2, 3, 0, 0, 0, 2, 3}},
		{"abc", []int{2, 3, 2, 2, 1, 3, 2, 0, 0, 2, 1}},
		{"word", []int{2, 1, 2, 0, 3, 0, 0, 1, 0, 3, 3}},
		{greatText, []int{3, 3, 3, 3, 3, 3, 3, 3, 0, 0, 0}},
		{"36214", []int{3, 3, 3, 3, 3, 3, 3, 2, 0, 0, 1}},
		{smallText, []int{0, 0, 0, 0, 0, 0, 0, 0, 1, 2, 0}},
		{"91415", []int{0, 0, 0, 0, 0, 0, 0, 1, 1, 1, 3}},
	} {
		if got := impl.QuadsOf(c.text); !slices.Equal(got, c.want) {
			t.Errorf("QuadsOf(%q) = %v; want %v", c.text, got, c.want)
		}
	}
}

func TestQuadsAreQuartersAndWhatTheyMiss(t *testing.T) {
	for size := range 2000 {
		text := manyBytes(size)
		got := impl.QuadsOf(text)
		if !slices.Equal(got, quadsPlainly(text)) {
			t.Fatalf("QuadsOf of %d bytes = %v; want %v", size, got, quadsPlainly(text))
		}
		if len(got) != impl.Chains || slices.Min(got) < 0 || slices.Max(got) > 3 {
			t.Fatalf("QuadsOf of %d bytes = %v: not eleven numbers of 0 .. 3", size, got)
		}
		sum := 16*got[8] + 4*got[9] + got[10]
		for _, q := range got[:8] {
			sum += q
		}
		if sum != 24 {
			t.Fatalf("QuadsOf of %d bytes = %v: comes to %d", size, got, sum)
		}
	}
}

func TestSecretsOfNumbers(t *testing.T) {
	seen := map[string]bool{}
	for _, seed := range secretNumbers {
		for _, leaf := range secretNumbers {
			for _, i := range secretNumbers {
				got := impl.SecretOf(seed, leaf, i)
				if got != secretPlainly(seed, leaf, i) || len(got) != 8 || seen[got] {
					t.Errorf("SecretOf(%d, %d, %d) = %x", seed, leaf, i, got)
				}
				seen[got] = true
			}
		}
	}
}

func TestSecretsAreRefused(t *testing.T) {
	for _, n := range wrongNumbers {
		for _, right := range []int{0, 1, 1000000} {
			for _, c := range [][3]int{{n, right, right}, {right, n, right}, {right, right, n}, {n, n, right}, {right, n, n}, {n, right, n}, {n, n, n}} {
				if got := impl.SecretOf(c[0], c[1], c[2]); got != "" {
					t.Errorf("SecretOf(%d, %d, %d) = %x; want nothing", c[0], c[1], c[2], got)
				}
			}
		}
	}
}

func TestLeafKeysByHand(t *testing.T) {
	for _, seed := range secretNumbers {
		for _, leaf := range []int{0, 1, 2, 3, 4, 100, 1000000} {
			tops := ""
			for i := range impl.Chains {
				tops += impl.ChainOf(impl.SecretOf(seed, leaf, i), 3)
			}
			got := impl.LeafKey(seed, leaf)
			if got != impl.CutDigest("l"+tops, 8) || got != leafKeyPlainly(seed, leaf) {
				t.Errorf("LeafKey(%d, %d) = %x", seed, leaf, got)
			}
		}
	}
}

func TestKeysByHand(t *testing.T) {
	for _, seed := range secretNumbers {
		left := impl.CutDigest("n"+impl.LeafKey(seed, 0)+impl.LeafKey(seed, 1), 8)
		right := impl.CutDigest("n"+impl.LeafKey(seed, 2)+impl.LeafKey(seed, 3), 8)
		got := impl.KeyOf(seed)
		if got != impl.CutDigest("n"+left+right, 8) || got != keyPlainly(seed) {
			t.Errorf("KeyOf(%d) = %x", seed, got)
		}
	}
}

func TestKeysOfNumbersOutOfBounds(t *testing.T) {
	// There are no secrets, so that each chain goes on from the empty text.
	leaf := cutPlainly("l" + strings.Repeat(chainPlainly("", 3), 11))
	pair := cutPlainly("n" + leaf + leaf)
	for _, n := range wrongNumbers {
		if impl.LeafKey(n, 0) != leaf || impl.LeafKey(0, n) != leaf || impl.LeafKey(n, n) != leaf {
			t.Errorf("LeafKey with %d = %x, %x, %x; want %x", n, impl.LeafKey(n, 0), impl.LeafKey(0, n), impl.LeafKey(n, n), leaf)
		}
		if got := impl.KeyOf(n); got != cutPlainly("n"+pair+pair) {
			t.Errorf("KeyOf(%d) = %x", n, got)
		}
	}
}

func TestWhatIsSignedIsSignedByItsKey(t *testing.T) {
	for _, seed := range []int{0, 1, 1007, 1000000} {
		key := impl.KeyOf(seed)
		for leaf := range impl.Leaves {
			for _, text := range signedTexts {
				s := mustSign(t, seed, leaf, text)
				if !sameSigns(s, signPlainly(seed, leaf, text)) {
					t.Errorf("SignText(%d, %d, %q) = %+v", seed, leaf, text, s)
				}
				if !impl.SignedBy(key, text, s) {
					t.Errorf("SignText(%d, %d, %q) is not signed by its key", seed, leaf, text)
				}
			}
		}
	}
	for size := range 300 {
		if text := manyBytes(size); !impl.SignedBy(impl.KeyOf(7), text, mustSign(t, 7, size%4, text)) {
			t.Errorf("%d bytes are not signed by their key", size)
		}
	}
}

func TestEndsAndWayAreWhatTheChapterSays(t *testing.T) {
	for leaf := range impl.Leaves {
		for _, text := range signedTexts {
			s := mustSign(t, 1014, leaf, text)
			for i, times := range impl.QuadsOf(text) {
				if s.Ends[i] != impl.ChainOf(impl.SecretOf(1014, leaf, i), times) {
					t.Errorf("leaf %d, %q: end %d is %x", leaf, text, i, s.Ends[i])
				}
			}
			if s.Leaf != leaf || len(s.Ends) != 11 || len(s.Way) != 2 || s.Way[0] != impl.LeafKey(1014, leaf^1) {
				t.Errorf("leaf %d, %q: %+v", leaf, text, s)
			}
		}
	}
}

func TestSignTextRefuses(t *testing.T) {
	refused := func(seed int, leaf int) {
		t.Helper()
		if s, ok := impl.SignText(seed, leaf, "word"); ok || s.Leaf != 0 || len(s.Ends) != 0 || len(s.Way) != 0 {
			t.Errorf("SignText(%d, %d) = %+v, %v; want nothing, false", seed, leaf, s, ok)
		}
	}
	for _, seed := range wrongNumbers {
		for _, leaf := range []int{0, 3, -1, 4} {
			refused(seed, leaf)
		}
	}
	for _, leaf := range wrongLeaves {
		for _, seed := range []int{0, 1007, 1000000} {
			refused(seed, leaf)
		}
	}
}

func TestNobodySignsForOthers(t *testing.T) {
	for leaf := range impl.Leaves {
		s := mustSign(t, 1007, leaf, "word")
		for _, seed := range []int{-1, 0, 1, 7, 1000, 1006, 1008, 1014, 1000000, 1000001} {
			if impl.SignedBy(impl.KeyOf(seed), "word", s) {
				t.Errorf("leaf %d of 1007 is signed by the key of %d", leaf, seed)
			}
		}
		key := impl.KeyOf(1007)
		for _, other := range []string{"", key[:7], key[1:], key + "\x00", key + key, "\x00" + key, impl.LeafKey(1007, leaf), s.Way[1], "12345678", manyBytes(20000)} {
			if impl.SignedBy(other, "word", s) {
				t.Errorf("leaf %d of 1007 is signed by %d bytes that are not its key", leaf, len(other))
			}
		}
		for at := range key {
			if impl.SignedBy(turned(key, at, key[at]^1), "word", s) {
				t.Errorf("leaf %d of 1007 is signed by its key with byte %d turned", leaf, at)
			}
		}
	}
}

func TestAnotherTextIsNotSigned(t *testing.T) {
	key := impl.KeyOf(1007)
	for leaf := range impl.Leaves {
		for _, text := range signedTexts {
			s := mustSign(t, 1007, leaf, text)
			others := append([]string{text + "\x00", text + "a", "w", "wore"}, signedTexts...)
			for _, other := range others {
				if same := slices.Equal(quadsPlainly(text), quadsPlainly(other)); impl.SignedBy(key, other, s) != same {
					t.Errorf("a signature of %q, held against %q: %v", text, other, !same)
				}
			}
		}
	}
}

// No more of a text is signed than the first two bytes of its Digest.
func TestTextsOfTheSameQuadsAreSignedAlike(t *testing.T) {
	a, b := mustSign(t, 1007, 1, alikeText), mustSign(t, 1007, 1, twinText)
	if !slices.Equal(impl.QuadsOf(alikeText), impl.QuadsOf(twinText)) || !sameSigns(a, b) {
		t.Fatal("the two texts are not alike")
	}
	if !impl.SignedBy(impl.KeyOf(1007), twinText, a) {
		t.Error("a signature does not hold for a text of the same QuadsOf")
	}
}

func TestAChangedSignatureDoesNotHold(t *testing.T) {
	key := impl.KeyOf(1007)
	for leaf := range impl.Leaves {
		whole := mustSign(t, 1007, leaf, "word")
		changed := func(why string, change func(s *impl.Signature)) {
			t.Helper()
			s := copied(whole)
			change(&s)
			if impl.SignedBy(key, "word", s) {
				t.Errorf("leaf %d holds with %s", leaf, why)
			}
		}
		for other := range impl.Leaves {
			if other != leaf {
				changed("another leaf", func(s *impl.Signature) { s.Leaf = other })
			}
		}
		for i := range whole.Ends {
			for at := range 8 {
				changed("an end changed", func(s *impl.Signature) { s.Ends[i] = turned(s.Ends[i], at, s.Ends[i][at]^128) })
			}
			changed("an end one further", func(s *impl.Signature) { s.Ends[i] = impl.ChainOf(s.Ends[i], 1) })
			changed("two ends exchanged", func(s *impl.Signature) {
				s.Ends[i], s.Ends[(i+1)%11] = s.Ends[(i+1)%11], s.Ends[i]
			})
		}
		for i := range whole.Way {
			for at := range 8 {
				changed("a step changed", func(s *impl.Signature) { s.Way[i] = turned(s.Way[i], at, s.Way[i][at]^1) })
			}
		}
		changed("the steps exchanged", func(s *impl.Signature) { slices.Reverse(s.Way) })
		changed("the ends reversed", func(s *impl.Signature) { slices.Reverse(s.Ends) })
	}
}

func TestWhateverComesToAKeyIsSignedByIt(t *testing.T) {
	for leaf := range impl.Leaves {
		s := impl.Signature{Leaf: leaf}
		for i := range impl.Chains {
			s.Ends = append(s.Ends, manyBytes(100)[i:i+8])
		}
		s.Way = []string{"\x00\x00\x00\x00\x00\x00\x00\x00", "12345678"}
		for _, text := range signedTexts {
			if !impl.SignedBy(comesTo(text, s), text, s) {
				t.Errorf("leaf %d, %q: not signed by the key to which it comes", leaf, text)
			}
		}
	}
}

func TestSignaturesOfAnotherLeafAreRefused(t *testing.T) {
	for leaf := range impl.Leaves {
		for _, other := range append([]int{leaf + 4, leaf - 4, leaf + 8, leaf + 1<<32}, wrongLeaves...) {
			s := mustSign(t, 1007, leaf, "word")
			s.Leaf = other
			refuseForm(t, 1007, "word", s, "no such leaf")
		}
	}
}

func TestSignaturesOfOtherNumbersAreRefused(t *testing.T) {
	const size = "12345678"
	for leaf := range impl.Leaves {
		for _, text := range signedTexts {
			whole := mustSign(t, 1007, leaf, text)
			for _, count := range []int{0, 1, 10, 12, 13, 22} {
				s := copied(whole)
				s.Ends = append(s.Ends, slices.Repeat([]string{size}, 11)...)[:count]
				refuseForm(t, 1007, text, s, "another number of ends")
			}
			for _, count := range []int{0, 1, 3, 4} {
				s := copied(whole)
				s.Way = append(s.Way, size, size)[:count]
				refuseForm(t, 1007, text, s, "another number of steps")
			}
		}
	}
	refuseForm(t, 1007, "word", impl.Signature{}, "nothing at all")
	refuseForm(t, 1007, "", impl.Signature{Leaf: 3}, "a leaf alone")
	refuseForm(t, 1007, "word", impl.Signature{Ends: make([]string, 11), Way: make([]string, 2)}, "empty ends and steps")
}

func TestSignaturesOfOtherSizesAreRefused(t *testing.T) {
	for _, text := range signedTexts {
		whole := mustSign(t, 1007, 2, text)
		for _, size := range []int{0, 1, 7, 9, 16, 32, 1000} {
			for i := range whole.Ends {
				s := copied(whole)
				s.Ends[i] = (s.Ends[i] + manyBytes(1000))[:size]
				refuseForm(t, 1007, text, s, "an end of another size")
			}
			for i := range whole.Way {
				s := copied(whole)
				s.Way[i] = (s.Way[i] + manyBytes(1000))[:size]
				refuseForm(t, 1007, text, s, "a step of another size")
			}
		}
	}
	// The bytes of two neighbours cut elsewhere come to the same key: of greatText no chain of the first eight goes on.
	s := mustSign(t, 1007, 0, greatText)
	s.Ends[0], s.Ends[1] = s.Ends[0][:7], s.Ends[0][7:]+s.Ends[1]
	if comesTo(greatText, s) != impl.KeyOf(1007) {
		t.Fatal("cut elsewhere, the ends do not come to the key")
	}
	refuseForm(t, 1007, greatText, s, "ends cut elsewhere")
}

func TestQuadsAreNewEachTime(t *testing.T) {
	first := impl.QuadsOf("word")
	second := impl.QuadsOf("word")
	for i := range first {
		first[i] = -7
	}
	_ = append(first, -7)
	if !slices.Equal(second, quadsPlainly("word")) || !slices.Equal(impl.QuadsOf("word"), quadsPlainly("word")) {
		t.Errorf("QuadsOf, after its first answer was written into, = %v, %v", second, impl.QuadsOf("word"))
	}
}

func TestSignaturesAreNewEachTime(t *testing.T) {
	want := signPlainly(1007, 2, "word")
	first, second := mustSign(t, 1007, 2, "word"), mustSign(t, 1007, 2, "word")
	way := slices.Clone(first.Way)
	for i := range first.Ends {
		first.Ends[i] = "x"
	}
	_ = append(first.Ends, "x", "x", "x")
	if !slices.Equal(first.Way, way) {
		t.Error("Ends and Way of one answer share memory")
	}
	for i := range first.Way {
		first.Way[i] = "y"
	}
	_ = append(first.Way, "y", "y", "y")
	if !sameSigns(second, want) || !sameSigns(mustSign(t, 1007, 2, "word"), want) {
		t.Error("two answers of SignText share memory")
	}
}

func TestSignedByChangesNothing(t *testing.T) {
	whole := mustSign(t, 1007, 2, "word")
	room := append(append(slices.Clone(whole.Ends), "spare"), whole.Way...)
	room = append(room, "spare", "room")
	before := slices.Clone(room)
	for _, ends := range []int{10, 11, 12} {
		for _, steps := range []int{1, 2, 3} {
			s := impl.Signature{Leaf: 2, Ends: room[:ends], Way: room[12 : 12+steps]}
			for range 2 {
				if got := impl.SignedBy(impl.KeyOf(1007), "word", s); got != (ends == 11 && steps == 2) {
					t.Errorf("%d ends and %d steps: %v", ends, steps, got)
				}
			}
			if s.Leaf != 2 || len(s.Ends) != ends || len(s.Way) != steps || !slices.Equal(room, before) {
				t.Fatalf("%d ends and %d steps: SignedBy changed what it was handed", ends, steps)
			}
		}
	}
}
