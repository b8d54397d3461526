package tests

import (
	"bytes"
	"math"
	"slices"
	"strings"
	"testing"

	"loop.example/g00474/impl"
)

type (
	role = impl.Role
	word = impl.Cred
)

// Numbers that are far from right; of some the lowest bits alone would be.
var farNumbers = []int{-100, -256, 127, 128, 256, 257, 1 << 31, 1 << 32, 1<<32 + 1, impl.MaxNumber, math.MaxInt, math.MinInt, math.MinInt + 1}

// Days whose texts have one byte and two.
var rightUntils = []int{1, 2, 9, 126, 127, 128, 129, 255, 256, 257, 9998, 9999}

var rightNonces = []int{0, 1, 9, 98, 99}

func allRoles() []role {
	var list []role
	for who := range impl.People {
		for name := range impl.Roles {
			list = append(list, role{Who: who, Name: name})
		}
	}
	return list
}

// edgeRoles have each of both numbers at, and one past, its ends.
func edgeRoles() []role {
	var list []role
	for _, who := range []int{-1, 0, 5, 6} {
		for _, name := range []int{-1, 0, 3, 4} {
			list = append(list, role{Who: who, Name: name})
		}
	}
	return list
}

func wrongRoles() []role {
	var list []role
	for _, r := range edgeRoles() {
		if r.Who == -1 || r.Who == 6 || r.Name == -1 || r.Name == 4 {
			list = append(list, r)
		}
	}
	for _, n := range farNumbers {
		list = append(list, role{Who: n}, role{Who: n, Name: 3}, role{Name: n}, role{Who: 5, Name: n}, role{Who: n, Name: n})
	}
	return list
}

// kindWords are some right words of each kind, with every number that they have other than 0 in one of them.
func kindWords() []word {
	a, b, c := role{Who: 1, Name: 2}, role{Who: 5, Name: 3}, role{Who: 3, Name: 1}
	return []word{
		{Kind: 1, Of: b, Who: 3, Until: 9, Nonce: 7},
		{Kind: 1, Of: a, Who: 5, Until: 128},
		{Kind: 1, Until: 1},
		{Kind: 2, Of: a, A: b, Until: 5, Nonce: 99},
		{Kind: 2, Of: b, A: role{}, Until: 9999},
		{Kind: 2, Until: 1},
		{Kind: 3, Of: a, A: b, B: role{Name: 3}, Until: 127, Nonce: 1},
		{Kind: 3, Of: b, A: a, B: role{}, Until: 300, Nonce: 42},
		{Kind: 3, Until: 1},
		{Kind: 4, Of: a, A: b, B: c, Until: 9999, Nonce: 99},
		{Kind: 4, Of: c, A: a, B: a, Until: 200, Nonce: 1},
		{Kind: 4, Until: 1},
	}
}

func numbersOf(c word) []int {
	return []int{c.Kind, c.Of.Who, c.Of.Name, c.Who, c.A.Who, c.A.Name, c.B.Who, c.B.Name, c.Until, c.Nonce}
}

func textPlainly(numbers []int) string {
	text := ""
	for _, n := range numbers {
		text += varPlainly(n)
	}
	return text
}

func roleRight(r role) bool { return within(r.Who, 0, 5) && within(r.Name, 0, 3) }

func within(n int, low int, high int) bool { return low <= n && n <= high }

// rightPlainly asks of each number of a word, one by one, for the highest that its kind lets it have.
func rightPlainly(c word) bool {
	highest := map[int][]int{
		1: {1, 5, 3, 5, 0, 0, 0, 0, 9999, 99},
		2: {2, 5, 3, 0, 5, 3, 0, 0, 9999, 99},
		3: {3, 5, 3, 0, 5, 3, 0, 3, 9999, 99},
		4: {4, 5, 3, 0, 5, 3, 5, 3, 9999, 99},
	}[c.Kind]
	if highest == nil || c.Until == 0 {
		return false
	}
	for i, n := range numbersOf(c) {
		if n < 0 || n > highest[i] {
			return false
		}
	}
	return true
}

func comesBack(t *testing.T, c word) {
	t.Helper()
	text := impl.CredText(c)
	if !impl.CredOk(c) || text != textPlainly(numbersOf(c)) {
		t.Fatalf("CredOk(%+v) = %v, CredText %q", c, impl.CredOk(c), text)
	}
	if back, ok := impl.ReadCred(text); !ok || back != c {
		t.Fatalf("ReadCred(%q) = %+v, %v; want %+v", text, back, ok, c)
	}
}

func refuseCred(t *testing.T, c word, why string) {
	t.Helper()
	if impl.CredOk(c) || impl.CredText(c) != "" {
		t.Errorf("CredOk(%+v) = %v, CredText %q; want false, empty: %s", c, impl.CredOk(c), impl.CredText(c), why)
	}
	// The numbers may stand in a text all the same.
	for _, n := range numbersOf(c) {
		if n < 0 || n > 1000000 {
			return
		}
	}
	refuseRead(t, textPlainly(numbersOf(c)), why)
}

func refuseRead(t *testing.T, text string, why string) {
	t.Helper()
	if c, ok := impl.ReadCred(text); ok || c != (word{}) {
		t.Errorf("ReadCred(%q) = %+v, %v; want nothing, false: %s", text, c, ok, why)
	}
}

func TestNumbersOfCircles(t *testing.T) {
	if impl.People != 6 || impl.Roles != 4 {
		t.Errorf("People %d, Roles %d", impl.People, impl.Roles)
	}
	if impl.CrMember != 1 || impl.CrFrom != 2 || impl.CrLink != 3 || impl.CrBoth != 4 {
		t.Errorf("kinds %d, %d, %d, %d", impl.CrMember, impl.CrFrom, impl.CrLink, impl.CrBoth)
	}
}

func TestRolesThatAreRight(t *testing.T) {
	for who := -10; who <= 20; who++ {
		for name := -10; name <= 20; name++ {
			r := role{Who: who, Name: name}
			if impl.RoleOk(r) != roleRight(r) {
				t.Errorf("RoleOk(%+v) = %v", r, impl.RoleOk(r))
			}
		}
	}
	if !impl.RoleOk(role{}) || !impl.RoleOk(role{Who: 5, Name: 3}) {
		t.Error("the first or the last circle is not right")
	}
	for _, r := range wrongRoles() {
		if impl.RoleOk(r) {
			t.Errorf("RoleOk(%+v) is true", r)
		}
	}
}

func TestTextsOfWordsByHand(t *testing.T) {
	for _, c := range []struct {
		word word
		want string
	}{
		{word{Kind: impl.CrMember, Of: role{Who: 1, Name: 2}, Who: 3, Until: 9, Nonce: 4}, "\x01\x01\x02\x03\x00\x00\x00\x00\x09\x04"},
		{word{Kind: impl.CrMember, Until: 1}, "\x01\x00\x00\x00\x00\x00\x00\x00\x01\x00"},
		{word{Kind: impl.CrFrom, Of: role{Who: 4, Name: 1}, A: role{Who: 5, Name: 3}, Until: 127, Nonce: 99}, "\x02\x04\x01\x00\x05\x03\x00\x00\x7f\x63"},
		{word{Kind: impl.CrFrom, Of: role{Who: 5, Name: 3}, A: role{Who: 1}, Until: 128}, "\x02\x05\x03\x00\x01\x00\x00\x00\x80\x01\x00"},
		{word{Kind: impl.CrLink, Of: role{Who: 2, Name: 1}, A: role{Who: 4, Name: 3}, B: role{Name: 2}, Until: 300, Nonce: 10}, "\x03\x02\x01\x00\x04\x03\x00\x02\xac\x02\x0a"},
		{word{Kind: impl.CrLink, Of: role{Who: 5}, A: role{Name: 1}, B: role{Name: 3}, Until: 129, Nonce: 1}, "\x03\x05\x00\x00\x00\x01\x00\x03\x81\x01\x01"},
		{word{Kind: impl.CrBoth, Of: role{Who: 1, Name: 2}, A: role{Who: 3, Name: 1}, B: role{Who: 5, Name: 3}, Until: 9999, Nonce: 99}, "\x04\x01\x02\x00\x03\x01\x05\x03\x8f\x4e\x63"},
		{word{Kind: impl.CrBoth, Of: role{Name: 3}, A: role{Who: 5}, B: role{Name: 2}, Until: 256, Nonce: 2}, "\x04\x00\x03\x00\x05\x00\x00\x02\x80\x02\x02"},
	} {
		if got := impl.CredText(c.word); got != c.want {
			t.Errorf("CredText(%+v) = %q; want %q", c.word, got, c.want)
		}
		if got, ok := impl.ReadCred(c.want); !ok || got != c.word {
			t.Errorf("ReadCred(%q) = %+v, %v; want %+v", c.want, got, ok, c.word)
		}
	}
}

func TestWordsComeBackFromTheirTexts(t *testing.T) {
	for i, of := range allRoles() {
		for j, a := range allRoles() {
			until, nonce := rightUntils[(i+j)%len(rightUntils)], rightNonces[(i+j)%len(rightNonces)]
			comesBack(t, word{Kind: impl.CrFrom, Of: of, A: a, Until: until, Nonce: nonce})
			for name := range impl.Roles {
				comesBack(t, word{Kind: impl.CrLink, Of: of, A: a, B: role{Name: name}, Until: until, Nonce: nonce})
			}
			for _, b := range allRoles() {
				comesBack(t, word{Kind: impl.CrBoth, Of: of, A: a, B: b, Until: until, Nonce: nonce})
			}
		}
		for who := range impl.People {
			comesBack(t, word{Kind: impl.CrMember, Of: of, Who: who, Until: rightUntils[who], Nonce: rightNonces[i%len(rightNonces)]})
		}
	}
}

func TestWordsOfEveryDayComeBack(t *testing.T) {
	for _, c := range kindWords() {
		for c.Until = 1; c.Until <= 9999; c.Until++ {
			comesBack(t, c)
		}
		c.Until = 9
		for c.Nonce = 0; c.Nonce <= 99; c.Nonce++ {
			comesBack(t, c)
		}
	}
}

func TestWordsAtTheEdges(t *testing.T) {
	for kind := range 6 {
		for _, of := range edgeRoles() {
			for _, who := range []int{-1, 0, 5, 6} {
				for _, a := range edgeRoles() {
					for _, b := range edgeRoles() {
						c := word{Kind: kind, Of: of, Who: who, A: a, B: b, Until: 1}
						if rightPlainly(c) {
							comesBack(t, c)
						} else {
							refuseCred(t, c, "past an edge, or too much")
						}
					}
				}
			}
		}
	}
}

func TestDaysAndNoncesAtTheirEdges(t *testing.T) {
	for _, c := range kindWords() {
		for _, until := range []int{-1, 0, 1, 127, 128, 9999, 10000, 10001, 16383, 16384} {
			for _, nonce := range []int{-1, 0, 99, 100, 127, 128, 16384} {
				c.Until, c.Nonce = until, nonce
				if within(until, 1, 9999) && within(nonce, 0, 99) {
					comesBack(t, c)
				} else {
					refuseCred(t, c, "Until or Nonce out of bounds")
				}
			}
		}
	}
}

func TestNumbersFarFromRightAreRefused(t *testing.T) {
	for _, whole := range kindWords() {
		for _, n := range farNumbers {
			for i, at := range places(&whole) {
				if i == untilPlace && within(n, 1, 9999) {
					continue
				}
				kept := *at
				*at = n
				refuseCred(t, whole, "a number far from right")
				*at = kept
			}
		}
		comesBack(t, whole)
	}
}

const untilPlace = 8

func places(c *word) []*int {
	return []*int{&c.Kind, &c.Of.Who, &c.Of.Name, &c.Who, &c.A.Who, &c.A.Name, &c.B.Who, &c.B.Name, &c.Until, &c.Nonce}
}

func TestOtherKindsAreRefused(t *testing.T) {
	for _, c := range kindWords() {
		for kind := -300; kind <= 300; kind++ {
			if !within(kind, 1, 4) {
				c.Kind = kind
				refuseCred(t, c, "no such kind")
			}
		}
	}
	refuseCred(t, word{}, "nothing at all")
	refuseCred(t, word{Kind: impl.CrMember}, "no day")
	refuseCred(t, word{Until: 1}, "no kind")
}

// Every kind is shown with each thing that it has not, all else being right.
func TestWordsThatHaveTooMuchAreRefused(t *testing.T) {
	a, b := role{Who: 2, Name: 1}, role{Who: 4, Name: 2}
	member := word{Kind: impl.CrMember, Of: a, Who: 3, Until: 9}
	from := word{Kind: impl.CrFrom, Of: a, A: b, Until: 9}
	link := word{Kind: impl.CrLink, Of: a, A: b, B: role{Name: 2}, Until: 9}
	both := word{Kind: impl.CrBoth, Of: a, A: b, B: a, Until: 9}
	for _, c := range []word{member, from, link, both} {
		comesBack(t, c)
	}
	tooMuch := func(c word, change func(c *word), why string) {
		t.Helper()
		change(&c)
		refuseCred(t, c, why)
	}
	for _, r := range allRoles()[1:] {
		tooMuch(member, func(c *word) { c.A = r }, "a member with an A")
		tooMuch(member, func(c *word) { c.B = r }, "a member with a B")
		tooMuch(member, func(c *word) { c.A, c.B = r, r }, "a member with both")
		tooMuch(from, func(c *word) { c.B = r }, "a from with a B")
	}
	for who := 1; who < impl.People; who++ {
		tooMuch(from, func(c *word) { c.Who = who }, "a from with a Who")
		tooMuch(link, func(c *word) { c.Who = who }, "a link with a Who")
		tooMuch(link, func(c *word) { c.B.Who = who }, "a link with a Who in B")
		tooMuch(link, func(c *word) { c.Who, c.B.Who = who, who }, "a link with a Who, and one in B")
		tooMuch(both, func(c *word) { c.Who = who }, "a both with a Who")
	}
}

func TestWordsOfCirclesThatAreNotRightAreRefused(t *testing.T) {
	for _, whole := range kindWords() {
		for _, r := range wrongRoles() {
			of, a, b := whole, whole, whole
			of.Of, a.A, b.B = r, r, r
			refuseCred(t, of, "Of is not right")
			refuseCred(t, a, "A is not right")
			refuseCred(t, b, "B is not right")
		}
		for _, who := range append([]int{-1, 6, 7}, farNumbers...) {
			c := whole
			c.Who = who
			refuseCred(t, c, "Who is not right")
		}
	}
}

func TestReadCredRefusesTextsOfAnotherLength(t *testing.T) {
	refuseRead(t, "", "empty")
	for _, c := range kindWords() {
		text := impl.CredText(c)
		for size := range len(text) {
			refuseRead(t, text[:size], "cut off")
			refuseRead(t, text[size+1:], "its beginning is missing")
			// Without its first byte a number of two is one of one.
			if text[size] < 128 {
				refuseRead(t, text[:size]+text[size+1:], "a byte is missing")
			}
		}
		for b := range 256 {
			refuseRead(t, text+string([]byte{byte(b)}), "a byte too many")
		}
		refuseRead(t, text+text, "two words")
		refuseRead(t, text+manyBytes(20000), "far too long")
		refuseRead(t, "\x00"+text, "a nought ahead")
	}
	for size := range 300 {
		refuseRead(t, strings.Repeat("\x00", size), "noughts alone")
		refuseRead(t, strings.Repeat("\x01", size), "ones alone")
		refuseRead(t, strings.Repeat("\x80", size), "numbers that do not end")
		refuseRead(t, strings.Repeat("\xff", size), "numbers that do not end")
	}
}

func TestReadCredRefusesLongerForms(t *testing.T) {
	for _, c := range kindWords() {
		numbers := numbersOf(c)
		for i, n := range numbers {
			ahead, behind := textPlainly(numbers[:i]), textPlainly(numbers[i+1:])
			short := varPlainly(n)
			long := turned(short, len(short)-1, short[len(short)-1]|128)
			for range 9 {
				refuseRead(t, ahead+long+"\x00"+behind, "a longer form")
				long += "\x80"
			}
			for _, great := range []string{"\x80\x94\xeb\xdc\x03", "\x81\x94\xeb\xdc\x03", "\xff\xff\xff\xff\xff\xff\xff\xff\x7f", "\x81\x80\x80\x80\x80\x80\x80\x80\x80\x02"} {
				refuseRead(t, ahead+great+behind, "a number that is too great")
			}
		}
	}
}

func wordOf(numbers []int) word {
	c := word{}
	for i, at := range places(&c) {
		*at = numbers[i]
	}
	return c
}

// readPlainly tells the numbers of a text apart by the bytes that end them, and asks for the rest afterwards.
func readPlainly(text string) (word, bool) {
	numbers := []int{0}
	unit := 1
	for _, b := range []byte(text) {
		numbers[len(numbers)-1] += int(b%128) * unit
		unit *= 128
		if b < 128 {
			numbers, unit = append(numbers, 0), 1
		}
	}
	if len(numbers) != 11 {
		return word{}, false
	}
	c := wordOf(numbers)
	if !rightPlainly(c) || textPlainly(numbersOf(c)) != text {
		return word{}, false
	}
	return c, true
}

func TestReadCredTakesJustWhatCredTextWrites(t *testing.T) {
	taken := 0
	hold := func(text string) {
		t.Helper()
		c, ok := impl.ReadCred(text)
		if want, right := readPlainly(text); c != want || ok != right {
			t.Errorf("ReadCred(%q) = %+v, %v; want %+v, %v", text, c, ok, want, right)
		}
		if ok {
			taken++
		}
	}
	for _, c := range kindWords() {
		text := impl.CredText(c)
		for at := range len(text) {
			for b := range 256 {
				hold(turned(text, at, byte(b)))
				hold(text[:at] + string([]byte{byte(b)}) + text[at:])
			}
			for other := range at {
				hold(exchanged(text, at, other))
			}
		}
	}
	for size := range 400 {
		hold(manyBytes(size))
		hold(allBytes()[:size%256])
	}
	if taken < 1000 {
		t.Errorf("only %d texts of words among them", taken)
	}
}

func TestOneNumberTurnedIsAnotherWordOrNone(t *testing.T) {
	for _, c := range kindWords() {
		numbers := numbersOf(c)
		for i := range numbers {
			for n := range 300 {
				other := slices.Clone(numbers)
				other[i] = n
				want := wordOf(other)
				if got, ok := impl.ReadCred(textPlainly(other)); ok != rightPlainly(want) || ok && got != want {
					t.Errorf("ReadCred of %v = %+v, %v", other, got, ok)
				}
			}
		}
	}
}

// wordsToCompare differ at first in each of their numbers; among them are days whose texts go another way than their numbers, and words that are not right.
func wordsToCompare() []word {
	list := kindWords()
	for _, c := range kindWords() {
		for _, until := range rightUntils {
			list = append(list, word{Kind: c.Kind, Of: c.Of, Who: c.Who, A: c.A, B: c.B, Until: until, Nonce: 5})
		}
		for _, at := range places(&c) {
			*at++
			list = append(list, c)
		}
	}
	return append(list, word{}, word{Kind: 5, Until: 1}, word{Kind: 1}, word{Kind: 4, Of: role{Who: 6}, Until: 9})
}

func TestWordsAreComparedByTheirTexts(t *testing.T) {
	list := wordsToCompare()
	for _, a := range list {
		for _, b := range list {
			var texts [2][]byte
			for i, c := range []word{a, b} {
				if rightPlainly(c) {
					texts[i] = []byte(textPlainly(numbersOf(c)))
				}
			}
			if got := impl.CredLess(a, b); got != (bytes.Compare(texts[0], texts[1]) < 0) {
				t.Errorf("CredLess(%+v, %+v) = %v", a, b, got)
			}
		}
	}
}

func TestWordsInTheirOrder(t *testing.T) {
	last := role{Who: 5, Name: 3}
	ascending := []word{
		{Kind: impl.CrMember, Until: 1},
		{Kind: impl.CrMember, Until: 1, Nonce: 99},
		{Kind: impl.CrMember, Until: 127},
		// From here on the lowest seven bits of a day come first.
		{Kind: impl.CrMember, Until: 128},
		{Kind: impl.CrMember, Until: 128, Nonce: 1},
		{Kind: impl.CrMember, Until: 256},
		{Kind: impl.CrMember, Until: 129},
		{Kind: impl.CrMember, Until: 255},
		{Kind: impl.CrMember, Who: 5, Until: 1},
		{Kind: impl.CrMember, Of: role{Name: 1}, Until: 1},
		{Kind: impl.CrMember, Of: role{Who: 1}, Until: 1},
		{Kind: impl.CrMember, Of: last, Who: 5, Until: 9999, Nonce: 99},
		{Kind: impl.CrFrom, Until: 1},
		{Kind: impl.CrFrom, A: role{Name: 1}, Until: 1},
		{Kind: impl.CrFrom, A: role{Who: 1}, Until: 1},
		{Kind: impl.CrFrom, Of: last, A: last, Until: 9999, Nonce: 99},
		{Kind: impl.CrLink, Until: 1},
		{Kind: impl.CrLink, B: role{Name: 1}, Until: 1},
		{Kind: impl.CrLink, Of: last, A: last, B: role{Name: 3}, Until: 9999, Nonce: 99},
		{Kind: impl.CrBoth, Until: 1},
		{Kind: impl.CrBoth, B: role{Name: 3}, Until: 1},
		{Kind: impl.CrBoth, B: role{Who: 1}, Until: 1},
		{Kind: impl.CrBoth, A: role{Name: 1}, Until: 1},
	}
	for i, a := range ascending {
		for j, b := range ascending {
			if impl.CredLess(a, b) != (i < j) {
				t.Errorf("CredLess(%+v, %+v) = %v", a, b, i >= j)
			}
		}
	}
}

// One that is not right has the empty text, which is less than any other, but not than itself.
func TestWordsThatAreNotRightAreLess(t *testing.T) {
	wrong := []word{{}, {Kind: 1}, {Kind: 5, Until: 1}, {Kind: -1, Until: 1}, {Kind: 4, Until: 10000}, {Kind: 2, Who: 1, Until: 1}}
	for _, a := range wrong {
		for _, b := range wrong {
			if impl.CredLess(a, b) {
				t.Errorf("CredLess(%+v, %+v) is true; both are not right", a, b)
			}
		}
		for _, c := range kindWords() {
			if !impl.CredLess(a, c) || impl.CredLess(c, a) {
				t.Errorf("CredLess(%+v, %+v) = %v, and back %v", a, c, impl.CredLess(a, c), impl.CredLess(c, a))
			}
		}
	}
}

func TestPlacesThatAreKnown(t *testing.T) {
	for who, row := range [][]int{
		{0x96, 0xb4, 0xfc, 0x58},
		{0x47, 0x9d, 0xa1, 0xc7},
		{0x99, 0x25, 0x50, 0xee},
		{0x9b, 0x67, 0xd4, 0x86},
		{0xc0, 0x38, 0xb7, 0x62},
		{0x29, 0x8a, 0x7c, 0x88},
	} {
		for name, want := range row {
			if got := impl.PlaceOf(role{Who: who, Name: name}); got != want {
				t.Errorf("PlaceOf(%d, %d) = %d; want %d", who, name, got, want)
			}
		}
	}
}

func TestPlacesByHand(t *testing.T) {
	for _, r := range allRoles() {
		text := string([]byte{byte(r.Who), byte(r.Name)})
		got := impl.PlaceOf(r)
		if got != int(impl.Digest(text)[0]) || got != int(digestByLibrary(text)[0]) || !within(got, 0, 255) {
			t.Errorf("PlaceOf(%+v) = %d", r, got)
		}
	}
}

func TestPlacesOfCirclesThatAreNotRight(t *testing.T) {
	for _, r := range wrongRoles() {
		if got := impl.PlaceOf(r); got != 0 {
			t.Errorf("PlaceOf(%+v) = %d; want 0", r, got)
		}
	}
}
