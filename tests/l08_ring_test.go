package tests

import (
	"math"
	"math/big"
	"slices"
	"sync"
	"testing"

	"loop.example/g00474/impl"
)

// ringNumbers are on the ring and off it, below 0, some times round from each other, and at the ends of what an int can be.
var ringNumbers = []int{
	0, 1, 2, 127, 128, 129, 254, 255,
	256, 257, 258, 383, 384, 511, 512, 513, 1000, 65535, 65536, 1 << 31, 1 << 32, 1<<32 + 255, 1 << 62,
	-1, -2, -127, -128, -129, -254, -255, -256, -257, -511, -512, -513, -1000, -65536, -1 << 31, -1 << 32, -1 << 62,
	math.MaxInt, math.MaxInt - 1, math.MaxInt - 255, math.MaxInt - 256, math.MinInt, math.MinInt + 1, math.MinInt + 255, math.MinInt + 256,
}

// aheadPlainly counts with numbers that have no ends.
func aheadPlainly(from int, to int) int {
	way := new(big.Int).Sub(big.NewInt(int64(to)), big.NewInt(int64(from)))
	return int(way.Mod(way, big.NewInt(256)).Int64())
}

// betweenPlainly goes from a on, one by one, until it comes to b.
func betweenPlainly(a int, x int, b int) bool {
	toX, toB := aheadPlainly(a, x), aheadPlainly(a, b)
	for way := 1; way < 256; way++ {
		if way == toX {
			return true
		}
		if way == toB {
			return false
		}
	}
	return false
}

// roundPlainly goes round from a number on, one by one, and takes all who stand there.
func roundPlainly(ids []int, from int) []int {
	var ways, list []int
	for _, id := range ids {
		ways = append(ways, aheadPlainly(from, id))
	}
	for way := range 256 {
		for i, id := range ids {
			if ways[i] == way {
				list = append(list, id)
			}
		}
	}
	return list
}

func ownerPlainly(ids []int, key int) int {
	return append(roundPlainly(ids, key), -1)[0]
}

func orderedPlainly(ids []int, a int) []int {
	var list []int
	for _, id := range roundPlainly(ids, a) {
		if id != a && !slices.Contains(list, id) {
			list = append(list, id)
		}
	}
	return list
}

// thrownIds are numbers of the ring, or, in every other list, some times round from it; some stand there twice.
func thrownIds(d *dice, size int) []int {
	span, rounds := 1+d.below(256), d.below(2)*3
	var ids []int
	for range size {
		id := d.below(span)
		if rounds > 0 {
			id += 256 * (d.below(2*rounds+1) - rounds)
		}
		if d.below(9) == 0 {
			id = ringNumbers[d.below(len(ringNumbers))]
		}
		ids = append(ids, id)
	}
	return ids
}

func TestSizeOfTheRing(t *testing.T) {
	if impl.RingSize != 256 {
		t.Errorf("RingSize = %d", impl.RingSize)
	}
}

func TestAheadByHand(t *testing.T) {
	for _, c := range []struct{ from, to, way int }{
		{0, 0, 0}, {0, 1, 1}, {1, 0, 255}, {0, 255, 255}, {255, 0, 1}, {255, 255, 0},
		{250, 4, 10}, {4, 250, 246}, {4, 4, 0}, {0, 128, 128}, {128, 0, 128}, {127, 128, 1}, {128, 127, 255},
		{0, 256, 0}, {256, 0, 0}, {5, 261, 0}, {261, 5, 0}, {5, 262, 1}, {262, 5, 255}, {300, 44, 0}, {300, 45, 1},
		{-1, 0, 1}, {0, -1, 255}, {-1, -1, 0}, {-1, 255, 0}, {255, -1, 0}, {-256, 0, 0}, {0, -256, 0}, {-257, 0, 1}, {-3, 3, 6}, {3, -3, 250},
		{math.MinInt, math.MaxInt, 255}, {math.MaxInt, math.MinInt, 1}, {0, math.MaxInt, 255}, {math.MaxInt, 0, 1},
		{0, math.MinInt, 0}, {math.MinInt, 0, 0}, {math.MinInt, 1, 1}, {1, math.MinInt, 255}, {math.MinInt, -1, 255},
	} {
		if got := impl.Ahead(c.from, c.to); got != c.way {
			t.Errorf("Ahead(%d, %d) = %d; want %d", c.from, c.to, got, c.way)
		}
	}
}

// From each number one by one onward, all the way round; and back again, which makes it once round.
func TestAheadOfAllPairs(t *testing.T) {
	for from := range 256 {
		to := from
		for way := range 256 {
			if got := impl.Ahead(from, to); got != way {
				t.Fatalf("Ahead(%d, %d) = %d; want %d", from, to, got, way)
			}
			once := 256
			if from == to {
				once = 0
			}
			if got := impl.Ahead(from, to) + impl.Ahead(to, from); got != once {
				t.Fatalf("from %d to %d and back: %d", from, to, got)
			}
			to++
			if to == 256 {
				to = 0
			}
		}
	}
}

func TestAheadOfNumbersOffTheRing(t *testing.T) {
	for _, from := range ringNumbers {
		for _, to := range ringNumbers {
			got := impl.Ahead(from, to)
			if got != aheadPlainly(from, to) {
				t.Errorf("Ahead(%d, %d) = %d; want %d", from, to, got, aheadPlainly(from, to))
			}
			if back := impl.Ahead(to, from); (got+back)%256 != 0 || !within(got, 0, 255) {
				t.Errorf("from %d to %d and back: %d and %d", from, to, got, back)
			}
		}
	}
	for from := -600; from <= 600; from += 7 {
		for to := -600; to <= 600; to++ {
			if got := impl.Ahead(from, to); got != aheadPlainly(from, to) {
				t.Fatalf("Ahead(%d, %d) = %d", from, to, got)
			}
		}
	}
}

func TestAheadOfOneFromItself(t *testing.T) {
	for _, n := range ringNumbers {
		if got := impl.Ahead(n, n); got != 0 {
			t.Errorf("Ahead(%d, %d) = %d", n, n, got)
		}
		// Half of it leaves room for some times round.
		half := n / 2
		for _, rounds := range []int{-512, -256, 256, 512} {
			if got := impl.Ahead(half, half+rounds); got != 0 {
				t.Errorf("Ahead(%d, %d) = %d", half, half+rounds, got)
			}
		}
	}
}

// By two ways one goes as far as by the one of both.
func TestAheadGoesOn(t *testing.T) {
	for _, a := range ringNumbers {
		for _, b := range ringNumbers {
			for _, c := range ringNumbers {
				if got := (impl.Ahead(a, b) + impl.Ahead(b, c)) % 256; got != impl.Ahead(a, c) {
					t.Fatalf("from %d by %d to %d: %d", a, b, c, got)
				}
			}
		}
	}
}

func TestBetweenByHand(t *testing.T) {
	for _, c := range []struct {
		a, x, b int
		want    bool
	}{
		{10, 11, 20, true}, {10, 19, 20, true}, {10, 20, 20, true}, {10, 21, 20, false}, {10, 10, 20, false}, {10, 9, 20, false}, {10, 200, 20, false},
		{250, 4, 4, true}, {250, 5, 4, false}, {250, 251, 4, true}, {250, 255, 4, true}, {250, 0, 4, true}, {250, 250, 4, false}, {250, 249, 4, false}, {250, 100, 4, false},
		{10, 11, 11, true}, {10, 12, 11, false}, {10, 10, 11, false}, {10, 9, 9, true}, {10, 255, 9, true}, {10, 10, 9, false},
		// From one to itself it is all but it.
		{7, 8, 7, true}, {7, 6, 7, true}, {7, 135, 7, true}, {7, 7, 7, false}, {0, 0, 0, false}, {255, 255, 255, false}, {255, 0, 255, true}, {0, 255, 0, true},
		// Some times round is the same.
		{7, 8, 263, true}, {7, 6, 263, true}, {7, 7, 263, false}, {7, 263, 7, false}, {263, 7, 7, false}, {7, 263, 263, false}, {263, 7, 263, false}, {263, 519, -249, false},
		{10, 266, 20, false}, {10, 267, 20, true}, {10, 276, 20, true}, {10, 277, 20, false}, {10, 276, 276, true}, {266, 20, 20, true}, {10, -236, 20, true}, {10, -235, 20, false}, {10, -246, 20, false},
		{-6, 0, 4, true}, {-6, -6, 4, false}, {-6, 250, 4, false}, {-6, 4, 4, true}, {-6, 5, 4, false}, {-1, 0, 0, true}, {-1, 255, 0, false}, {-1, -1, -1, false}, {-1, 0, 255, true},
		{math.MaxInt, math.MinInt, 0, true}, {math.MaxInt, 1, math.MinInt, false}, {math.MinInt, math.MaxInt, math.MinInt, true}, {math.MinInt, math.MinInt, math.MinInt, false},
		{math.MaxInt, math.MaxInt, math.MaxInt, false}, {math.MinInt, 0, math.MaxInt, false}, {math.MinInt, 1, math.MaxInt, true}, {math.MaxInt, 5, math.MaxInt, true}, {math.MinInt, 256, 0, false},
	} {
		if got := impl.Between(c.a, c.x, c.b); got != c.want {
			t.Errorf("Between(%d, %d, %d) = %v", c.a, c.x, c.b, got)
		}
	}
}

// All that there are on the ring: from a on one by one, up to b and with it.
func TestBetweenOfAllTriples(t *testing.T) {
	for a := range 256 {
		for b := range 256 {
			reached := false
			for way := range 256 {
				x := (a + way) % 256
				want := way > 0 && !reached
				if impl.Between(a, x, b) != want {
					t.Fatalf("Between(%d, %d, %d) = %v", a, x, b, !want)
				}
				reached = reached || x == b && a != b
			}
		}
	}
}

func TestBetweenOfNumbersOffTheRing(t *testing.T) {
	for _, a := range ringNumbers {
		for _, x := range ringNumbers {
			for _, b := range ringNumbers {
				got := impl.Between(a, x, b)
				if got != betweenPlainly(a, x, b) {
					t.Errorf("Between(%d, %d, %d) = %v", a, x, b, got)
				}
				byAhead := impl.Ahead(a, x) > 0 && (impl.Ahead(a, x) <= impl.Ahead(a, b) || impl.Ahead(a, b) == 0)
				if got != byAhead {
					t.Errorf("Between(%d, %d, %d) = %v; not by Ahead of a", a, x, b, got)
				}
				// Whoever goes from a to b, and from b to a, meets each once.
				if other := impl.Between(b, x, a); aheadPlainly(a, b) != 0 && got == other {
					t.Errorf("Between(%d, %d, %d) and back are both %v", a, x, b, got)
				}
			}
		}
	}
}

func TestBetweenAtItsEnds(t *testing.T) {
	for _, a := range ringNumbers {
		for _, b := range ringNumbers {
			if impl.Between(a, a, b) {
				t.Errorf("Between(%d, %d, %d)", a, a, b)
			}
			apart := aheadPlainly(a, b) != 0
			if impl.Between(a, b, b) != apart {
				t.Errorf("Between(%d, %d, %d) = %v", a, b, b, !apart)
			}
			if impl.Between(a, b, a) != apart {
				t.Errorf("Between(%d, %d, %d) = %v", a, b, a, !apart)
			}
		}
	}
}

func TestOwnerByHand(t *testing.T) {
	for _, c := range []struct {
		ids  []int
		key  int
		want int
	}{
		{[]int{10, 90}, 91, 10}, {[]int{10, 90}, 90, 90}, {[]int{10, 90}, 89, 90}, {[]int{10, 90}, 11, 90}, {[]int{10, 90}, 10, 10}, {[]int{10, 90}, 9, 10}, {[]int{10, 90}, 255, 10}, {[]int{10, 90}, 0, 10},
		{[]int{90, 10}, 91, 10}, {[]int{90, 10}, 11, 90}, {[]int{200, 30, 120, 5}, 121, 200}, {[]int{200, 30, 120, 5}, 201, 5}, {[]int{200, 30, 120, 5}, 6, 30}, {[]int{200, 30, 120, 5}, 31, 120},
		{[]int{7}, 7, 7}, {[]int{7}, 8, 7}, {[]int{7}, 6, 7}, {[]int{0}, 255, 0}, {[]int{255}, 0, 255}, {[]int{0, 255}, 255, 255}, {[]int{0, 255}, 0, 0}, {[]int{0, 255}, 1, 255},
		// The key goes round.
		{[]int{10, 90}, 256 + 91, 10}, {[]int{10, 90}, 256 + 90, 90}, {[]int{10, 90}, 90 - 256, 90}, {[]int{10, 90}, -1, 10}, {[]int{10, 90}, -165, 10}, {[]int{10, 90}, -166, 90}, {[]int{10, 90}, math.MaxInt, 10}, {[]int{10, 90}, math.MinInt, 10},
		// So do the ids, and they are told as they stand there.
		{[]int{266, 90}, 91, 266}, {[]int{10, 346}, 11, 346}, {[]int{-166, 10}, 11, -166}, {[]int{-1, 10}, 255, -1}, {[]int{math.MaxInt, 10}, 11, math.MaxInt}, {[]int{math.MinInt, 10}, 11, math.MinInt}, {[]int{math.MinInt, math.MaxInt}, 0, math.MinInt}, {[]int{math.MinInt, math.MaxInt}, 1, math.MaxInt},
		// The first one of those alike.
		{[]int{300, 44}, 44, 300}, {[]int{44, 300}, 44, 44}, {[]int{44, 300}, 300, 44}, {[]int{300, 44}, 40, 300}, {[]int{90, -212, 44, 300}, 40, -212}, {[]int{44, 44}, 44, 44}, {[]int{90, 44, 300, 44}, 44, 44}, {[]int{5, 5, 5}, 6, 5}, {[]int{300, 90, 44, 300}, 91, 300},
		{[]int{math.MaxInt, 255, -1}, 255, math.MaxInt}, {[]int{-1, 255, math.MaxInt}, 255, -1}, {[]int{0, math.MinInt}, 1, 0},
		{nil, 0, -1}, {[]int{}, 0, -1}, {nil, -1, -1}, {[]int{}, 255, -1}, {nil, math.MinInt, -1},
	} {
		if got := impl.OwnerOf(c.ids, c.key); got != c.want {
			t.Errorf("OwnerOf(%v, %d) = %d; want %d", c.ids, c.key, got, c.want)
		}
	}
}

// A key that is an id, one just ahead of it, and one just behind it.
func TestOwnerOfKeysBesideIds(t *testing.T) {
	ids := []int{200, 3, 77, 255, 128}
	next := map[int]int{3: 77, 77: 128, 128: 200, 200: 255, 255: 3}
	for _, id := range ids {
		for _, rounds := range []int{0, 256, -256, 1 << 40, -1 << 40} {
			if got := impl.OwnerOf(ids, id+rounds); got != id {
				t.Errorf("%d has the key %d", got, id+rounds)
			}
			if got := impl.OwnerOf(ids, id-1+rounds); got != id {
				t.Errorf("%d has the key just ahead of %d", got, id)
			}
			if got := impl.OwnerOf(ids, id+1+rounds); got != next[id] {
				t.Errorf("%d has the key just behind %d", got, id)
			}
		}
	}
}

func TestOwnerOfOneIsIt(t *testing.T) {
	for _, id := range ringNumbers {
		for _, key := range ringNumbers {
			if got := impl.OwnerOf([]int{id}, key); got != id {
				t.Errorf("OwnerOf(%d alone, %d) = %d", id, key, got)
			}
		}
	}
}

func TestOwnersOfThrownIds(t *testing.T) {
	d := dice(81)
	for i := range 300 {
		ids := thrownIds(&d, i%40)
		for key := -20; key < 280; key += 1 + d.below(9) {
			holdOwner(t, ids, key)
		}
		for range 5 {
			holdOwner(t, ids, ringNumbers[d.below(len(ringNumbers))])
		}
	}
}

// holdOwner asks also of all ids that none is nearer, and that none ahead of it in the list is as near.
func holdOwner(t *testing.T, ids []int, key int) {
	t.Helper()
	got := impl.OwnerOf(ids, key)
	if got != ownerPlainly(ids, key) {
		t.Fatalf("OwnerOf(%v, %d) = %d; want %d", ids, key, got, ownerPlainly(ids, key))
	}
	first := slices.Index(ids, got)
	if first < 0 && len(ids) > 0 {
		t.Fatalf("OwnerOf(%v, %d) = %d, which is none of them", ids, key, got)
	}
	for i, id := range ids {
		nearer := impl.Ahead(key, got) - impl.Ahead(key, id)
		if nearer > 0 || nearer == 0 && i < first {
			t.Fatalf("OwnerOf(%v, %d) = %d; but %d", ids, key, got, id)
		}
	}
}

func TestOrderedByHand(t *testing.T) {
	for _, c := range []struct {
		ids  []int
		a    int
		want []int
	}{
		{[]int{10, 200, 90}, 90, []int{200, 10}}, {[]int{10, 200, 90}, 10, []int{90, 200}}, {[]int{10, 200, 90}, 200, []int{10, 90}},
		{[]int{10, 200, 90}, 91, []int{200, 10, 90}}, {[]int{10, 200, 90}, 89, []int{90, 200, 10}}, {[]int{10, 200, 90}, 0, []int{10, 90, 200}}, {[]int{10, 200, 90}, 255, []int{10, 90, 200}}, {[]int{10, 200, 90}, 150, []int{200, 10, 90}},
		{[]int{3, 2, 1, 0, 255, 254}, 0, []int{1, 2, 3, 254, 255}}, {[]int{3, 2, 1, 0, 255, 254}, 255, []int{0, 1, 2, 3, 254}}, {[]int{3, 2, 1, 0, 255, 254}, 2, []int{3, 254, 255, 0, 1}},
		// Each once, whether it is a or not.
		{[]int{90, 10, 90, 200, 90}, 90, []int{200, 10}}, {[]int{90, 10, 90, 10, 200, 10}, 90, []int{200, 10}}, {[]int{90, 10, 90, 200}, 10, []int{90, 200}}, {[]int{90, 10, 90, 200}, 0, []int{10, 90, 200}}, {[]int{5, 5, 5}, 6, []int{5}}, {[]int{5, 5, 5}, 5, nil},
		// Those alike in their order, each once.
		{[]int{300, 44, -212}, 40, []int{300, 44, -212}}, {[]int{-212, 44, 300}, 40, []int{-212, 44, 300}}, {[]int{44, 300, 44, -212, 300}, 40, []int{44, 300, -212}}, {[]int{300, 50, 44, 41, 300}, 40, []int{41, 300, 44, 50}}, {[]int{300, 50, 44, 306, 50}, 200, []int{300, 44, 50, 306}},
		// One that is some times round from a is not a, and stands nearest.
		{[]int{300, 90, 44, -212}, 44, []int{300, -212, 90}}, {[]int{90, -212, 300, 44}, 44, []int{-212, 300, 90}}, {[]int{300, 90, 44}, 300, []int{44, 90}}, {[]int{300, 300}, 44, []int{300}}, {[]int{43, 300, 45}, 44, []int{300, 45, 43}},
		// An a that is off the ring.
		{[]int{10, 200, 90}, 346, []int{90, 200, 10}}, {[]int{10, 200, 90}, -166, []int{90, 200, 10}}, {[]int{10, 200, 90}, -1, []int{10, 90, 200}}, {[]int{10, 346, 90, 200}, 346, []int{90, 200, 10}}, {[]int{10, -1, 255}, -1, []int{255, 10}}, {[]int{10, -1, 255}, 255, []int{-1, 10}},
		{[]int{math.MinInt, 7, math.MaxInt}, 0, []int{math.MinInt, 7, math.MaxInt}}, {[]int{math.MinInt, 7, math.MaxInt}, math.MinInt, []int{7, math.MaxInt}}, {[]int{math.MinInt, 7, math.MaxInt}, math.MaxInt, []int{math.MinInt, 7}}, {[]int{math.MaxInt, math.MinInt}, 255, []int{math.MaxInt, math.MinInt}}, {[]int{math.MinInt, math.MaxInt}, 1, []int{math.MaxInt, math.MinInt}},
		{[]int{7}, 8, []int{7}}, {[]int{7}, 6, []int{7}}, {[]int{7}, 7, nil}, {[]int{0}, 0, nil}, {[]int{-1}, -1, nil},
		{nil, 0, nil}, {[]int{}, 0, nil}, {nil, -1, nil}, {[]int{}, math.MaxInt, nil},
	} {
		if got := impl.OrderedFrom(c.ids, c.a); !slices.Equal(got, c.want) {
			t.Errorf("OrderedFrom(%v, %d) = %v; want %v", c.ids, c.a, got, c.want)
		}
	}
}

func TestOrderedFromOfTheWholeRing(t *testing.T) {
	d := dice(82)
	ids := make([]int, 256)
	for i := range ids {
		at := d.below(i + 1)
		ids[i] = ids[at]
		ids[at] = i
	}
	for a := range 256 {
		got := impl.OrderedFrom(ids, a)
		if len(got) != 255 {
			t.Fatalf("%d behind %d", len(got), a)
		}
		for i, id := range got {
			if id != (a+1+i)%256 {
				t.Fatalf("%d stands at the place %d behind %d", id, i, a)
			}
		}
	}
}

func TestOrderedFromOfThrownIds(t *testing.T) {
	d := dice(83)
	for i := range 300 {
		ids := thrownIds(&d, i%40)
		for range 10 {
			holdOrdered(t, ids, d.below(300)-20)
			holdOrdered(t, ids, ringNumbers[d.below(len(ringNumbers))])
		}
		for _, id := range ids {
			holdOrdered(t, ids, id)
		}
	}
}

// holdOrdered asks also, pair by pair, for the order, and of each id whether it is there just once.
func holdOrdered(t *testing.T, ids []int, a int) {
	t.Helper()
	got := impl.OrderedFrom(ids, a)
	if want := orderedPlainly(ids, a); !slices.Equal(got, want) {
		t.Fatalf("OrderedFrom(%v, %d) = %v; want %v", ids, a, got, want)
	}
	for i := 1; i < len(got); i++ {
		further := impl.Ahead(a, got[i]) - impl.Ahead(a, got[i-1])
		if further < 0 || further == 0 && slices.Index(ids, got[i]) <= slices.Index(ids, got[i-1]) {
			t.Fatalf("OrderedFrom(%v, %d) = %v; not in order at %d", ids, a, got, i)
		}
	}
	for _, id := range ids {
		if slices.Contains(got, id) == (id == a) {
			t.Fatalf("OrderedFrom(%v, %d) = %v; and %d", ids, a, got, id)
		}
	}
}

// Who has a key that is nobody's own is the first one behind it.
func TestTheOwnerIsTheFirstOneBehind(t *testing.T) {
	d := dice(84)
	for i := range 200 {
		ids := thrownIds(&d, 1+i%20)
		for key := range 256 {
			if slices.Contains(ids, key) {
				continue
			}
			if got := impl.OrderedFrom(ids, key); got[0] != impl.OwnerOf(ids, key) {
				t.Fatalf("behind %d are %v; the owner is %d", key, got, impl.OwnerOf(ids, key))
			}
		}
	}
}

func TestNoIds(t *testing.T) {
	for _, n := range ringNumbers {
		for _, ids := range [][]int{nil, {}, withRoom([]int{}, n)} {
			if got := impl.OwnerOf(ids, n); got != -1 {
				t.Errorf("OwnerOf(none, %d) = %d", n, got)
			}
			if got := impl.OrderedFrom(ids, n); len(got) != 0 {
				t.Errorf("OrderedFrom(none, %d) = %v", n, got)
			}
		}
	}
}

func TestIdsAreLeftAsTheyAre(t *testing.T) {
	d := dice(85)
	for i := range 100 {
		were := thrownIds(&d, i)
		ids := withRoom(were, -77)
		for key := 0; key < 256; key += 5 {
			impl.OwnerOf(ids, key)
			impl.OrderedFrom(ids, key)
		}
		for _, id := range were {
			impl.OwnerOf(ids, id)
			impl.OrderedFrom(ids, id)
		}
		if !untouched(ids, were, -77) {
			t.Fatalf("the ids were written into: %v", ids)
		}
	}
}

func TestOrderedIdsAreNewMemory(t *testing.T) {
	// In some they stand as the answer has them, so that to hand them on would not be seen otherwise.
	for _, were := range [][]int{{10, 90, 200}, {10, 10, 90, 200}, {0, 10, 90, 200}, {90, 0, 200, 10}, {77}, {266, 10}} {
		ids := withRoom(were, -77)
		keepsApart(t, impl.OrderedFrom(ids, 0), ids, 78, "OrderedFrom and its ids")
		keepsApart(t, impl.OrderedFrom(ids, 0), impl.OrderedFrom(ids, 0), 78, "two answers of OrderedFrom")
		if !untouched(ids, were, -77) {
			t.Errorf("OrderedFrom gives room that is another's: %v", ids)
		}
		answer := impl.OrderedFrom(ids, 0)
		keepsApart(t, ids, answer, 78, "the ids and what was ordered")
	}
}

// An answer hangs neither on the one before it nor on those that are asked for at the same time.
func TestManyGoRoundAtOnce(t *testing.T) {
	d := dice(86)
	var lists [][]int
	for i := range 30 {
		lists = append(lists, thrownIds(&d, i))
	}
	var group sync.WaitGroup
	for by := range 8 {
		group.Go(func() {
			for i := range lists {
				ids, key := lists[(i+by)%len(lists)], 31*i+by
				if impl.OwnerOf(ids, key) != ownerPlainly(ids, key) || !slices.Equal(impl.OrderedFrom(ids, key), orderedPlainly(ids, key)) {
					t.Errorf("another answer of %v and %d", ids, key)
				}
			}
		})
	}
	group.Wait()
}

// Many ids, also when they are all alike, are no more than a while's work.
func TestManyIds(t *testing.T) {
	const many = 200000
	alike, apart := make([]int, many), make([]int, many)
	for i := range many {
		alike[i], apart[i] = 5+256*(i-many/2), many-i
	}
	if got := impl.OwnerOf(alike, 6); got != alike[0] {
		t.Errorf("the owner of many alike: %d", got)
	}
	if got := impl.OrderedFrom(append(alike, alike...), 6); !slices.Equal(got, alike) {
		t.Errorf("%d of many alike", len(got))
	}
	if got := impl.OwnerOf(apart, 6); got%256 != 6 || got+256 <= many {
		t.Errorf("the owner of many: %d", got)
	}
	got := impl.OrderedFrom(append(apart, apart...), 6)
	if len(got) != many-1 || !slices.IsSortedFunc(got, func(x int, y int) int {
		if x%256 == y%256 {
			return y - x
		}
		return aheadPlainly(6, x) - aheadPlainly(6, y)
	}) {
		t.Errorf("%d of many in order", len(got))
	}
}
