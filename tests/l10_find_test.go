package tests

import (
	"math"
	"slices"
	"sync"
	"testing"

	"loop.example/g00474/impl"
)

type trip = impl.Trip

// nobody is what Find tells beside a false.
var nobody = trip{Owner: -1}

// nextPlainly is false without one: -1 may be an Id, in a ring that is not right.
func nextPlainly(r ring, id int) (int, bool) {
	at := slices.IndexFunc(r.Peers, func(p peer) bool { return p.Here && p.Id == id })
	if at < 0 {
		return -1, false
	}
	for _, other := range r.Peers[at].Behind {
		if isHere(r, other) {
			return other, true
		}
	}
	return -1, false
}

// stepToPlainly comes from the key back to the asking one, one by one, and takes whom it meets first.
func stepToPlainly(r ring, id int, key int) (int, bool) {
	key = aheadPlainly(0, key)
	next, follows := nextPlainly(r, id)
	if !follows {
		return -1, false
	}
	if id == key {
		return id, true
	}
	if betweenPlainly(id, key, next) {
		return next, true
	}
	p := r.Peers[slices.IndexFunc(r.Peers, func(p peer) bool { return p.Here && p.Id == id })]
	var known [256][]int
	for place, other := range append(slices.Clone(p.Behind), p.Fingers...) {
		if finger := place >= len(p.Behind); finger && other == -1 {
			continue
		}
		way := aheadPlainly(id, other)
		known[way] = append(known[way], other)
	}
	way := aheadPlainly(id, key)
	if way == 0 {
		way = 255
	}
	for ; way > 0; way-- {
		for _, other := range known[way] {
			if other != key && isHere(r, other) {
				return other, false
			}
		}
	}
	return next, false
}

// findPlainly writes down by and all that are led to, who are as many as there may be hops, and by.
func findPlainly(r ring, by int, key int) (trip, bool) {
	key = aheadPlainly(0, key)
	asked := []int{by}
	for len(asked) <= 66 {
		last := asked[len(asked)-1]
		to, found := stepToPlainly(r, last, key)
		if to == -1 || to == last && !found {
			return nobody, false
		}
		if to != last {
			asked = append(asked, to)
		}
		if found && len(asked) <= 66 {
			return trip{Owner: to, Hops: len(asked) - 1}, true
		}
	}
	return nobody, false
}

func holdStep(t *testing.T, r ring, id int, key int, want int, wantFound bool) {
	t.Helper()
	if got, found := impl.StepTo(r, id, key); got != want || found != wantFound {
		t.Errorf("StepTo(%v, %d, %d) = %d, %v; want %d, %v", r.Peers, id, key, got, found, want, wantFound)
	}
	if got, found := stepToPlainly(r, id, key); got != want || found != wantFound {
		t.Errorf("plainly: %d asked for %d: %d, %v; want %d, %v", id, key, got, found, want, wantFound)
	}
}

func holdFind(t *testing.T, r ring, by int, key int, want trip, wantFound bool) {
	t.Helper()
	if got, found := impl.Find(r, by, key); got != want || found != wantFound {
		t.Errorf("Find(%v, %d, %d) = %+v, %v; want %+v, %v", r.Peers, by, key, got, found, want, wantFound)
	}
	if got, found := findPlainly(r, by, key); got != want || found != wantFound {
		t.Errorf("plainly: by %d for %d: %+v, %v; want %+v, %v", by, key, got, found, want, wantFound)
	}
}

// holdFound is for rings in which all know all as it is.
func holdFound(t *testing.T, r ring) {
	t.Helper()
	here := impl.HereOf(r)
	for _, by := range here {
		for key := range 256 {
			owner := impl.OwnerOf(here, key)
			got, ok := impl.Find(r, by, key)
			if !ok || got.Owner != owner {
				t.Fatalf("Find by %d of %v for %d: %+v, %v; %d has it", by, here, key, got, ok, owner)
			}
			to, found := impl.StepTo(r, by, key)
			if found && to != owner || !found && (!impl.Between(by, to, key) || to == key) {
				t.Fatalf("StepTo by %d of %v for %d: %d, %v; %d has it", by, here, key, to, found, owner)
			}
			if len(here) > 8 && key%16 > 0 {
				continue
			}
			if want, _ := findPlainly(r, by, key); got != want {
				t.Fatalf("Find by %d of %v for %d: %+v; want %+v", by, here, key, got, want)
			}
			if want, wantFound := stepToPlainly(r, by, key); to != want || found != wantFound {
				t.Fatalf("StepTo by %d of %v for %d: %d, %v; want %d, %v", by, here, key, to, found, want, wantFound)
			}
		}
	}
}

// knowingAll is of those that are all Here, and know all as it is.
func knowingAll(ids []int) ring {
	var r ring
	for _, id := range ids {
		r.Peers = append(r.Peers, peer{Id: id})
	}
	hereAll(&r)
	return r
}

// row is of those that are all Here, and know only the one that stands next in the list; the last one knows the first.
func row(ids []int) ring {
	var r ring
	for i, id := range ids {
		r.Peers = append(r.Peers, peer{Id: id, Here: true, Ahead: -1, Behind: []int{ids[(i+1)%len(ids)]}, Fingers: slices.Repeat([]int{-1}, 8)})
	}
	return r
}

func numbered(from int, to int) []int {
	var list []int
	for n := from; n <= to; n++ {
		list = append(list, n)
	}
	return list
}

func TestMaxHops(t *testing.T) {
	if impl.MaxHops != 65 {
		t.Errorf("MaxHops = %d", impl.MaxHops)
	}
}

// When all know all as it is, what is found is who has it.
func TestAllIsFoundInNewRings(t *testing.T) {
	for _, c := range newRings() {
		if len(c.want.Peers) > 0 {
			holdFound(t, impl.RingNew(c.ids))
		}
	}
	for size := 4; size <= 8; size++ {
		holdFound(t, ringOf(size))
		r := ringOf(size)
		hereAll(&r)
		holdFound(t, r)
	}
}

func TestAllIsFoundWhereAllKnowAll(t *testing.T) {
	d := dice(101)
	for i := range 40 {
		var ids []int
		for len(ids) < 2+i%9 {
			if id := d.below(256); !slices.Contains(ids, id) {
				ids = append(ids, id)
			}
		}
		holdFound(t, knowingAll(ids))
	}
	for _, ids := range [][]int{{0, 255}, {0, 1, 2, 3, 4, 5, 6, 7}, {252, 253, 254, 255, 0, 1, 2, 3}, {0, 32, 64, 96, 128, 160, 192, 224}, {0, 1, 3, 7, 15, 31, 63, 127}, numbered(100, 140)} {
		holdFound(t, knowingAll(ids))
	}
}

func TestFoundByHand(t *testing.T) {
	four := impl.RingNew([]int{10, 80, 150, 220, 30})
	apart := impl.RingNew([]int{200, 5, 77, 255, 128, 0, 30, 99})
	eight := ringOf(8)
	hereAll(&eight)
	for _, c := range []struct {
		r     ring
		by    int
		key   int
		owner int
		hops  int
	}{
		// By itself, by the next one, by way of another one.
		{four, 10, 10, 10, 0}, {four, 10, 11, 80, 1}, {four, 10, 79, 80, 1}, {four, 10, 80, 80, 1}, {four, 10, 81, 150, 2}, {four, 10, 150, 150, 2}, {four, 10, 151, 220, 2}, {four, 10, 220, 220, 2},
		// What belongs to the asking one comes back to it.
		{four, 10, 221, 10, 2}, {four, 10, 255, 10, 2}, {four, 10, 0, 10, 2}, {four, 10, 9, 10, 2}, {four, 150, 81, 150, 2}, {four, 150, 149, 150, 2},
		// A key that is one's Id who is not Here, and beside it.
		{four, 10, 30, 80, 1}, {four, 220, 30, 80, 2}, {four, 220, 29, 80, 2}, {four, 220, 31, 80, 2}, {four, 80, 30, 80, 2}, {four, 150, 30, 80, 2},
		{four, 220, 220, 220, 0}, {four, 220, 221, 10, 1}, {four, 220, 10, 10, 1}, {four, 220, 11, 80, 2}, {four, 220, 150, 150, 2}, {four, 220, 151, 220, 2},
		{apart, 200, 200, 200, 0}, {apart, 200, 201, 255, 1}, {apart, 200, 255, 255, 1}, {apart, 200, 0, 5, 2}, {apart, 200, 5, 5, 2}, {apart, 200, 128, 200, 2}, {apart, 200, 199, 200, 2}, {apart, 255, 0, 5, 1}, {apart, 255, 99, 200, 2}, {apart, 77, 6, 77, 2},
		// Of 10, 30, 40, 50, 60, 80, 150, 220 the first one knows 30, 40, 50, and by its fingers 80 and 150.
		{eight, 10, 10, 10, 0}, {eight, 10, 30, 30, 1}, {eight, 10, 31, 40, 2}, {eight, 10, 60, 60, 2}, {eight, 10, 61, 80, 3}, {eight, 10, 80, 80, 3}, {eight, 10, 81, 150, 2}, {eight, 10, 150, 150, 2}, {eight, 10, 151, 220, 2}, {eight, 10, 221, 10, 3}, {eight, 10, 9, 10, 3},
		{eight, 220, 60, 60, 3}, {eight, 220, 220, 220, 0}, {eight, 220, 41, 50, 2}, {eight, 220, 219, 220, 2}, {eight, 150, 10, 10, 2}, {eight, 150, 11, 30, 2},
	} {
		holdFind(t, c.r, c.by, c.key, trip{Owner: c.owner, Hops: c.hops}, true)
	}
}

func TestStepsToOthersByHand(t *testing.T) {
	four := impl.RingNew([]int{10, 80, 150, 220, 30})
	for _, c := range []struct {
		id, key, to int
		found       bool
	}{
		{10, 10, 10, true}, {10, 11, 80, true}, {10, 30, 80, true}, {10, 79, 80, true}, {10, 80, 80, true},
		{10, 81, 80, false}, {10, 150, 80, false}, {10, 151, 150, false}, {10, 220, 150, false}, {10, 221, 220, false}, {10, 255, 220, false}, {10, 0, 220, false}, {10, 9, 220, false},
		{220, 220, 220, true}, {220, 221, 10, true}, {220, 0, 10, true}, {220, 10, 10, true}, {220, 11, 10, false}, {220, 80, 10, false}, {220, 81, 80, false}, {220, 150, 80, false}, {220, 151, 150, false}, {220, 219, 150, false},
	} {
		holdStep(t, four, c.id, c.key, c.to, c.found)
	}
}

// asking is the ring of one that knows these, 10, and others that are there; 50 is not Here, and 70 there is not.
func asking(known []int, fingers ...int) ring {
	r := row([]int{10, 40, 60, 100, 200, 240})
	r.Peers[0].Behind, r.Peers[0].Fingers = known, fingers
	r.Peers = append(r.Peers, peer{Id: 50})
	return r
}

func TestWhomOneKnows(t *testing.T) {
	for _, c := range []struct {
		r     ring
		key   int
		to    int
		found bool
	}{
		// The furthest one ahead of the key, in whatever order they stand.
		{asking([]int{40, 60, 100}), 41, 40, false}, {asking([]int{40, 60, 100}), 61, 60, false}, {asking([]int{40, 60, 100}), 101, 100, false}, {asking([]int{40, 60, 100}), 9, 100, false},
		{asking([]int{40, 100, 60}), 101, 100, false}, {asking([]int{40, 100, 60}), 99, 60, false}, {asking([]int{40}, 100, 60), 101, 100, false}, {asking([]int{40}, 60, 100), 101, 100, false}, {asking([]int{40}, 240, 200, 100, 60), 101, 100, false},
		{asking([]int{40, 100}, 60, 200), 150, 100, false}, {asking([]int{40, 60}, 200, 100), 150, 100, false}, {asking([]int{40, 60}, 200, 100), 201, 200, false}, {asking([]int{40, 60}, 200, 240), 255, 240, false}, {asking([]int{40, 60}, 200, 240), 0, 240, false},
		// The same one again and again.
		{asking([]int{40, 40, 40}, 40, 60, 60, 60), 70, 60, false}, {asking([]int{40, 60, 60}, 40, 40), 41, 40, false},
		// One that has the key's number is not asked on the way.
		{asking([]int{40, 60, 100}, 60, 100), 60, 40, false}, {asking([]int{40, 60, 100}, 60, 100), 100, 60, false}, {asking([]int{40}, 100), 100, 40, false}, {asking([]int{40, 100}), 100, 40, false},
		// Those that are not Here, whom there is not, and whom one does not know.
		{asking([]int{40, 50}), 51, 40, false}, {asking([]int{40}, 50), 51, 40, false}, {asking([]int{40}, 70), 71, 40, false}, {asking([]int{40, 70}, 70, 50), 71, 40, false}, {asking([]int{40}, -1, -1, 60), 71, 60, false}, {asking([]int{40, -1}, -1), 9, 40, false},
		{asking([]int{50, 40}), 45, 40, false}, {asking([]int{50, 40}), 30, 40, true}, {asking([]int{50, 70, 60}), 55, 60, true}, {asking([]int{70, 50, 60}), 65, 60, false}, {asking([]int{-1, 40}), 40, 40, true}, {asking([]int{-1, 40}), 41, 40, false},
		// Ids that are some times round from those of others are nobody's.
		{asking([]int{40}, 356, -156), 101, 40, false}, {asking([]int{296, 60}), 30, 60, true}, {asking([]int{296, 60}, 316), 70, 60, false},
		// The asking one among those it knows.
		{asking([]int{40, 10}, 10, 10), 9, 40, false}, {asking([]int{40, 10}, 10, 60), 9, 60, false}, {asking([]int{40}, 10), 10, 10, true}, {asking([]int{40, 10}), 41, 40, false},
		{asking([]int{10, 40}), 11, 10, true}, {asking([]int{10, 40}), 41, 10, true}, {asking([]int{10, 40}), 9, 10, true}, {asking([]int{10}), 40, 10, true}, {asking([]int{10}), 10, 10, true},
		// A next one behind whom the key stands not; nearer ones count then no more.
		{asking([]int{200, 40, 60}, 100), 41, 200, true}, {asking([]int{200, 40, 60}, 100), 200, 200, true}, {asking([]int{200, 40, 60}, 100), 201, 200, false}, {asking([]int{100, 40}, 60), 61, 100, true}, {asking([]int{100, 40}, 60), 101, 100, false},
		// The next one is the only way on.
		{asking([]int{40}), 41, 40, false}, {asking([]int{40}), 9, 40, false}, {asking([]int{40}, -1, 50, 70, 10), 100, 40, false}, {asking([]int{50, 40}, 100), 100, 40, false}, {asking([]int{240}, 250), 255, 240, false},
		// The key is once round the asking one's number: nobody else is named.
		{asking([]int{10}), 266, 10, true}, {asking([]int{10, 50}, -1, 70), -246, 10, true}, {asking([]int{40, 60}, 100, 240), 266, 10, true},
		// One that has the key's number, when that is gone round, is not asked on the way.
		{asking([]int{40, 60, 100}, 60, 100), 316, 40, false}, {asking([]int{40, 60, 100}, 60, 100), -156, 60, false}, {asking([]int{40, 100}), 356, 40, false}, {asking([]int{40, 100}), 296, 40, true}, {asking([]int{40, 100}), 297, 40, false},
	} {
		holdStep(t, c.r, 10, c.key, c.to, c.found)
	}
}

// Whom one knows by a finger counts as whom it knows behind it, at every place of both.
func TestEachPlaceOfThoseKnown(t *testing.T) {
	for place := range 8 {
		fingers := slices.Repeat([]int{-1}, 8)
		fingers[place] = 100
		holdStep(t, asking([]int{40, 60}, fingers...), 10, 150, 100, false)
		holdStep(t, asking([]int{40, 60}, fingers...), 10, 90, 60, false)
		fingers = slices.Repeat([]int{60}, 8)
		fingers[place] = 50
		holdStep(t, asking([]int{40}, fingers...), 10, 55, 40, false)
	}
	for place := range 3 {
		known := []int{50, 50, 50}
		known[place] = 100
		holdStep(t, asking(known), 10, 90, 100, true)
		holdStep(t, asking(known), 10, 150, 100, false)
		holdStep(t, asking(known, 200), 10, 150, 100, false)
		holdStep(t, asking(known, 200), 10, 220, 200, false)
	}
}

// The one ahead tells no way on, nor do shelves.
func TestAheadIsNoWayOn(t *testing.T) {
	r := asking([]int{40})
	r.Peers[0].Ahead, r.Peers[0].Shelves = 240, manyShelves(80)
	holdStep(t, r, 10, 250, 40, false)
	r = asking(nil)
	r.Peers[0].Ahead = 240
	holdStep(t, r, 10, 250, -1, false)
	holdFind(t, r, 10, 250, nobody, false)
}

// Nobody tells who is not Here, or knows nobody behind it that is, also when it is the key.
func TestNobodyToAsk(t *testing.T) {
	lone := []ring{asking(nil), asking([]int{}), asking([]int{50}), asking([]int{70}), asking([]int{-1}), asking([]int{50, 70, -1}), asking(nil, 40, 60, 100), asking([]int{50}, 40, 10), asking([]int{266, 296})}
	for _, r := range lone {
		for _, key := range append([]int{10, 9, 11, 40, 50, 60, 70, 266, -246}, ringNumbers...) {
			holdStep(t, r, 10, key, -1, false)
			holdFind(t, r, 10, key, nobody, false)
		}
		// Whoever comes to it does not come on.
		holdFind(t, r, 240, 11, nobody, false)
		holdFind(t, r, 200, 39, nobody, false)
		holdFind(t, r, 240, 10, trip{Owner: 10, Hops: 1}, true)
		holdFind(t, r, 200, 5, trip{Owner: 10, Hops: 2}, true)
	}
	r := asking([]int{40, 60})
	r.Peers[6].Behind, r.Peers[6].Fingers = []int{60, 100}, []int{200}
	for _, id := range append([]int{50, 70, 266, -246, 296, -1, 256, 255, 11}, farNumbers...) {
		for _, key := range []int{50, 70, 51, 10, 0, -1, 256, id} {
			holdStep(t, r, id, key, -1, false)
			holdFind(t, r, id, key, nobody, false)
		}
	}
	for _, none := range []ring{{}, {Peers: []peer{}}, ringWithRoom(ring{}), {Peers: make([]peer, 8)}} {
		for _, n := range ringNumbers {
			holdStep(t, none, n, n, -1, false)
			holdStep(t, none, n, 0, -1, false)
			holdFind(t, none, n, n, nobody, false)
			holdFind(t, none, 0, n, nobody, false)
		}
	}
}

// holdAsOnTheRing is for rings in which what is asked for is found.
func holdAsOnTheRing(t *testing.T, r ring, by int, key int) {
	t.Helper()
	want, ok := impl.Find(r, by, aheadPlainly(0, key))
	holdFind(t, r, by, key, want, ok)
	to, found := impl.StepTo(r, by, aheadPlainly(0, key))
	holdStep(t, r, by, key, to, found)
}

// A key goes round: who is named, and what is found, are those of the number of the ring.
func TestKeysOffTheRing(t *testing.T) {
	eight := ringOf(8)
	hereAll(&eight)
	for _, r := range []ring{impl.RingNew([]int{10, 80, 150, 220, 30}), impl.RingNew([]int{0, 255, 1, 254}), eight} {
		here := impl.HereOf(r)
		for _, by := range here {
			for _, key := range ringNumbers {
				holdAsOnTheRing(t, r, by, key)
				if got, _ := impl.Find(r, by, key); got.Owner != impl.OwnerOf(here, key) {
					t.Errorf("by %d for %d: %+v", by, key, got)
				}
			}
			for key := -600; key < 900; key += 13 {
				holdAsOnTheRing(t, r, by, key)
			}
			for _, rounds := range []int{-512, -256, 256, 1 << 40, -1 << 40} {
				holdFind(t, r, by, by+rounds, trip{Owner: by}, true)
				holdStep(t, r, by, by+rounds, by, true)
				for _, other := range here {
					holdAsOnTheRing(t, r, by, other+rounds)
				}
			}
		}
	}
}

func TestKeysOffTheRingByHand(t *testing.T) {
	r := impl.RingNew([]int{10, 80, 150, 220, 30})
	for _, c := range []struct{ by, key, owner, hops int }{
		{10, 266, 10, 0}, {10, -246, 10, 0}, {10, 267, 80, 1}, {10, -1, 10, 2}, {10, 256, 10, 2}, {10, 336, 80, 1}, {10, 337, 150, 2}, {10, -176, 80, 1}, {220, -36, 220, 0}, {220, 476, 220, 0},
		{220, -35, 10, 1}, {80, 1 << 40, 10, 2}, {10, 1 << 62, 10, 2}, {220, math.MinInt, 10, 1}, {220, math.MaxInt, 10, 1}, {150, math.MaxInt, 10, 2}, {10, math.MinInt + 10, 10, 0}, {10, math.MaxInt - 245, 10, 0}, {10, math.MaxInt - 244, 80, 1},
	} {
		holdFind(t, r, c.by, c.key, trip{Owner: c.owner, Hops: c.hops}, true)
	}
	for _, c := range []struct {
		id, key, to int
		found       bool
	}{
		{10, 267, 80, true}, {10, 336, 80, true}, {10, -176, 80, true}, {10, 337, 80, false}, {10, 407, 150, false}, {10, -1, 220, false}, {10, 256, 220, false}, {220, -1, 10, true}, {220, 256, 10, true}, {220, math.MaxInt, 10, true}, {220, math.MinInt, 10, true}, {220, 1<<40 + 10, 10, true},
		{80, math.MaxInt, 220, false}, {80, math.MinInt, 220, false}, {80, 1 << 32, 220, false}, {80, 1<<32 + 150, 150, true}, {80, -106, 150, true}, {80, -105, 150, false},
		{10, 266, 10, true}, {10, -246, 10, true}, {220, -36, 220, true}, {220, 476, 220, true}, {10, math.MinInt + 10, 10, true}, {10, math.MaxInt - 245, 10, true},
		{10, 406, 80, false}, {10, -106, 80, false}, {10, -36, 150, false}, {10, 476, 150, false}, {150, 266, 220, false}, {150, -246, 220, false}, {10, 1<<40 + 150, 80, false},
	} {
		holdStep(t, r, c.id, c.key, c.to, c.found)
	}
}

// The last step, to the Owner, counts, also when that is by; none does by which nobody else is led to.
func TestHopsAreStepsToOthers(t *testing.T) {
	for size := 2; size <= 40; size++ {
		r := row(numbered(0, size-1))
		for by := range size {
			holdFind(t, r, by, by, trip{Owner: by}, true)
			ahead := (by + size - 1) % size
			holdFind(t, r, by, ahead, trip{Owner: ahead, Hops: size - 1}, true)
			holdFind(t, r, by, 255, trip{Owner: 0, Hops: size - by}, true)
			holdFind(t, r, by, size, trip{Owner: 0, Hops: size - by}, true)
		}
	}
	// All that one knows is itself.
	r := row([]int{10})
	for key := range 256 {
		holdFind(t, r, 10, key, trip{Owner: 10}, true)
	}
	holdFind(t, asking([]int{10, 40}), 10, 30, trip{Owner: 10}, true)
	holdFind(t, asking([]int{10, 40}), 240, 30, trip{Owner: 10, Hops: 1}, true)
}

func TestWaysOfJustMaxHops(t *testing.T) {
	r := row(numbered(0, 255))
	for by := range 256 {
		for _, hops := range []int{0, 1, 2, 63, 64, 65} {
			key := (by + hops) % 256
			holdFind(t, r, by, key, trip{Owner: key, Hops: hops}, true)
		}
		for _, hops := range []int{66, 67, 68, 128, 255} {
			holdFind(t, r, by, by+hops, nobody, false)
		}
	}
	// What is behind the last one but one belongs to the last one, however far it is.
	for _, last := range []int{64, 65, 66} {
		r = row(append(numbered(0, last-1), 200))
		for _, key := range []int{last, 150, 200} {
			if last <= 65 {
				holdFind(t, r, 0, key, trip{Owner: 200, Hops: last}, true)
				continue
			}
			holdFind(t, r, 0, key, nobody, false)
			holdFind(t, r, 1, key, trip{Owner: 200, Hops: 65}, true)
		}
	}
	// Back to by.
	for _, size := range []int{64, 65, 66} {
		r = row(numbered(0, size-1))
		want, ok := trip{Owner: 0, Hops: size}, true
		if size > 65 {
			want, ok = nobody, false
		}
		holdFind(t, r, 0, 255, want, ok)
	}
	// One shorter way is enough for all that come by it.
	r = row(numbered(0, 255))
	r.Peers[0].Fingers[7] = 128
	holdFind(t, r, 0, 192, trip{Owner: 192, Hops: 65}, true)
	holdFind(t, r, 0, 193, nobody, false)
	holdFind(t, r, 0, 128, nobody, false)
}

// As many hops as there may be, and then one who names itself: no hop more.
func TestTheLastOneNamesItself(t *testing.T) {
	way := func(from int) ring {
		// 266 stands where 10 does, and has another number.
		r := row(append(append(numbered(from, 255), numbered(0, 9)...), 266, 10))
		for i := range r.Peers {
			if r.Peers[i].Id == 8 {
				r.Peers[i].Fingers[1] = 266
			}
		}
		return r
	}
	holdFind(t, way(203), 203, 10, trip{Owner: 10, Hops: 63}, true)
	holdFind(t, way(202), 202, 10, trip{Owner: 10, Hops: 64}, true)
	holdFind(t, way(201), 201, 10, trip{Owner: 10, Hops: 65}, true)
	holdFind(t, way(200), 200, 10, nobody, false)
}

// Only in rings that are not right: of Ids on the ring each step comes nearer.
func TestWaysThatGoRound(t *testing.T) {
	alike := row([]int{266, 522})
	holdStep(t, alike, 266, 10, 522, false)
	holdFind(t, alike, 266, 10, nobody, false)
	holdFind(t, alike, 522, 10, nobody, false)
	holdFind(t, alike, 522, 11, trip{Owner: 266, Hops: 1}, true)

	alone := row([]int{266})
	holdStep(t, alone, 266, 10, 266, false)
	// The key goes round; an Id does not.
	holdStep(t, alone, 266, 266, 266, false)
	holdFind(t, alone, 266, 10, nobody, false)
	holdFind(t, alone, 266, 266, nobody, false)
	holdFind(t, alone, 266, 11, trip{Owner: 266}, true)

	three := ring{Peers: []peer{
		{Id: 300, Here: true, Behind: []int{40}},
		{Id: 40, Here: true, Behind: []int{41}, Fingers: []int{300}},
		{Id: 41, Here: true, Behind: []int{300}},
	}}
	holdStep(t, three, 40, 44, 300, false)
	holdStep(t, three, 300, 44, 40, false)
	holdFind(t, three, 40, 44, nobody, false)
	holdFind(t, three, 300, 44, nobody, false)
	holdFind(t, three, 41, 44, trip{Owner: 300, Hops: 1}, true)
	holdFind(t, three, 40, 41, trip{Owner: 41, Hops: 1}, true)
}

// Each one that is there, wherever it comes to, comes nearer, and tells of one that has it, as far as it knows.
func TestStepsComeNearer(t *testing.T) {
	d := dice(102)
	for range 400 {
		r := thrownWays(&d)
		for _, p := range r.Peers {
			key := d.below(256)
			to, found := impl.StepTo(r, p.Id, key)
			if !p.Here {
				holdStep(t, r, p.Id, key, -1, false)
			} else if found && to != p.Id && !impl.Between(p.Id, key, to) || !found && impl.Ahead(to, key) >= impl.Ahead(p.Id, key) {
				t.Fatalf("StepTo(%+v, %d, %d) = %d, %v", r, p.Id, key, to, found)
			}
		}
	}
}

// thrownWays are of Ids on the ring, which know anybody, right or wrong; of some there are as many as ways of MaxHops want.
func thrownWays(d *dice) ring {
	size := []int{5, 8, 20, 150}[d.below(4)]
	var ids []int
	for len(ids) < size {
		if id := d.below(256); !slices.Contains(ids, id) {
			ids = append(ids, id)
		}
	}
	slices.Sort(ids)
	r := row(ids)
	for i := range r.Peers {
		if d.below(3) == 0 {
			r.Peers[i].Behind = append([]int{d.below(256)}, append(r.Peers[i].Behind, ids[d.below(size)])...)
		}
		for n := range r.Peers[i].Fingers {
			if d.below(size) == 0 {
				r.Peers[i].Fingers[n] = []int{d.below(256), ids[d.below(size)]}[d.below(2)]
			}
		}
		if d.below(9) == 0 && i < size-1 {
			r.Peers[i] = peer{Id: ids[i]}
		}
		if p := &r.Peers[i]; p.Here && d.below(2) == 0 {
			p.Behind = append(p.Behind, ids[size-1])
		}
	}
	for i := range r.Peers {
		p := &r.Peers[i]
		if _, follows := nextPlainly(r, p.Id); p.Here && !follows {
			p.Behind = append(p.Behind, ids[size-1])
		}
	}
	return r
}

func TestThrownWays(t *testing.T) {
	d := dice(103)
	told := map[bool]int{}
	for range 300 {
		r := thrownWays(&d)
		for range 5 {
			by, key := r.Peers[d.below(len(r.Peers))].Id, d.below(256)
			want, ok := findPlainly(r, by, key)
			holdFind(t, r, by, key, want, ok)
			to, found := stepToPlainly(r, by, key)
			holdStep(t, r, by, key, to, found)
			told[ok]++
		}
	}
	if told[true] < 300 || told[false] < 100 {
		t.Errorf("told and not: %v", told)
	}
}

// The same Id more than once, Here and not, and those that know whom there is not.
func TestFoundInThrownRings(t *testing.T) {
	d := dice(104)
	for i := range 1200 {
		r := thrownRing(&d)
		if i%2 > 0 {
			nameMinusOne(&r)
		}
		for range 6 {
			id, key := 20*(d.below(12)-1), 20*(d.below(16)-1)+d.below(3)-1
			if i%2 > 0 {
				id = max(id, -1)
			}
			to, found := stepToPlainly(r, id, key)
			holdStep(t, r, id, key, to, found)
			want, ok := findPlainly(r, id, key)
			holdFind(t, r, id, key, want, ok)
		}
	}
}

// nameMinusOne has -1 as the Id of those below 0.
func nameMinusOne(r *ring) {
	for i := range r.Peers {
		p := &r.Peers[i]
		p.Id = max(p.Id, -1)
		for n := range p.Behind {
			p.Behind[n] = max(p.Behind[n], -1)
		}
	}
}

// It is the first one with this Id that is Here who is asked, and one that is Here is enough to be named.
func TestFoundAmongIdsThatAreThereTwice(t *testing.T) {
	one, two, three := peer{Id: 80, Here: true, Behind: []int{90}}, peer{Id: 90, Here: true, Behind: []int{10}}, peer{Id: 85}
	here := func(known ...int) peer { return peer{Id: 10, Here: true, Behind: known} }
	for _, c := range []struct {
		peers []peer
		key   int
		to    int
		found bool
		want  trip
		ok    bool
	}{
		{[]peer{here(80), here(90), one, two}, 85, 80, false, trip{Owner: 90, Hops: 2}, true},
		{[]peer{here(90), here(80), one, two}, 85, 90, true, trip{Owner: 90, Hops: 1}, true},
		{[]peer{here(), here(80), one, two}, 10, -1, false, nobody, false},
		{[]peer{{Id: 10}, here(80), one, two}, 85, 80, false, trip{Owner: 90, Hops: 2}, true},
		{[]peer{here(80), {Id: 10}, one, two}, 10, 10, true, trip{Owner: 10}, true},
		{[]peer{here(80, 90), {Id: 80}, two}, 70, 90, true, trip{Owner: 90, Hops: 1}, true},
		{[]peer{here(80, 90), {Id: 80}, one, two}, 70, 80, true, trip{Owner: 80, Hops: 1}, true},
		{[]peer{here(80, 90), one, {Id: 80}, two, {Id: 90}}, 90, 80, false, trip{Owner: 90, Hops: 2}, true},
		{[]peer{{Id: 10}, {Id: 10}, one, two}, 70, -1, false, nobody, false},
		{[]peer{here(80), {Id: 80, Here: true}, one, two}, 85, 80, false, nobody, false},
		{[]peer{here(80), one, {Id: 80, Here: true}, two}, 85, 80, false, trip{Owner: 90, Hops: 2}, true},
		{[]peer{here(85, 80), three, three, one, two}, 81, 80, false, trip{Owner: 90, Hops: 2}, true},
	} {
		r := ring{Peers: c.peers}
		holdStep(t, r, 10, c.key, c.to, c.found)
		holdFind(t, r, 10, c.key, c.want, c.ok)
	}
}

// withMinusOne has one more who is Here, with the Id -1, who knows 10.
func withMinusOne(known []int, fingers ...int) ring {
	r := asking(known, fingers...)
	r.Peers = append(r.Peers, peer{Id: -1, Here: true, Behind: []int{10}})
	return r
}

// Whoever is Here is one to name, whatever its Id is.
func TestMinusOneBehindIsAnId(t *testing.T) {
	for _, c := range []struct {
		r     ring
		key   int
		to    int
		found bool
	}{
		{withMinusOne([]int{40, -1}, 60), 0, -1, false}, {withMinusOne([]int{40, -1}, 60), 9, -1, false}, {withMinusOne([]int{40, 60, -1}, 240), 0, -1, false}, {withMinusOne([]int{40, -1, 240}), 0, -1, false},
		// It stands where 255 does, and is another one.
		{withMinusOne([]int{40, -1}, 60), 255, -1, false}, {withMinusOne([]int{40, -1}, 60), -1, -1, false},
		// It is too far, or the key is the asking one's, or that of the next one.
		{withMinusOne([]int{40, -1}, 60), 254, 60, false}, {withMinusOne([]int{40, -1}, 60), 61, 60, false}, {withMinusOne([]int{40, -1}, 60), 10, 10, true}, {withMinusOne([]int{40, -1}, 60), 40, 40, true},
		// It is the next one.
		{withMinusOne([]int{-1, 40}, 60), 10, 10, true}, {withMinusOne([]int{-1, 40}, 60), 11, -1, true}, {withMinusOne([]int{-1, 40}, 60), 255, -1, true}, {withMinusOne([]int{-1, 40}, 60), 0, -1, false}, {withMinusOne([]int{50, 70, -1}), 266, 10, true}, {withMinusOne([]int{50, 70, -1}), 200, -1, true}, {withMinusOne([]int{-1}), 9, -1, false},
	} {
		holdStep(t, c.r, 10, c.key, c.to, c.found)
		if c.to == -1 {
			holdFind(t, c.r, 10, c.key, nobody, false)
		}
	}
	holdFind(t, withMinusOne([]int{-1}), 10, 10, trip{Owner: 10}, true)
	holdFind(t, withMinusOne([]int{40, -1}), 10, 100, trip{Owner: 100, Hops: 3}, true)
	// Those that come to one who names it are told nobody.
	holdFind(t, withMinusOne([]int{-1}), 240, 100, nobody, false)
	holdFind(t, withMinusOne([]int{40, -1}), 240, 5, trip{Owner: 10, Hops: 1}, true)
	// It asks like others.
	r := withMinusOne([]int{40, 60})
	holdStep(t, r, -1, 5, 10, true)
	holdStep(t, r, -1, 11, 10, false)
	holdFind(t, r, -1, 5, trip{Owner: 10, Hops: 1}, true)
	holdFind(t, r, -1, 60, trip{Owner: 60, Hops: 3}, true)
	holdStep(t, r, -1, -1, 10, false)
	// Others below 0 are named, and found, like those above.
	r = asking([]int{40, -2})
	r.Peers = append(r.Peers, peer{Id: -2, Here: true, Behind: []int{10}})
	holdStep(t, r, 10, 0, -2, false)
	holdFind(t, r, 10, 0, trip{Owner: 10, Hops: 2}, true)
}

// Among the fingers -1 is one that is not known, also when somebody has it as an Id; and without one Here it is nobody's.
func TestMinusOneAsNobody(t *testing.T) {
	r := withMinusOne([]int{40, 60}, -1, 60, -1)
	for _, key := range []int{0, 9, 255, -1, 254} {
		holdStep(t, r, 10, key, 60, false)
	}
	holdStep(t, withMinusOne([]int{40}, slices.Repeat([]int{-1}, 8)...), 10, 0, 40, false)
	holdStep(t, withMinusOne(nil, slices.Repeat([]int{-1}, 8)...), 10, 0, -1, false)
	holdStep(t, withMinusOne(nil, -1), 10, 10, -1, false)
	r = withMinusOne([]int{-1, 40, -1}, -1, 60)
	r.Peers[len(r.Peers)-1] = peer{Id: -1}
	holdStep(t, r, 10, 10, 10, true)
	holdStep(t, r, 10, 40, 40, true)
	holdStep(t, r, 10, 0, 60, false)
	holdStep(t, r, -1, 5, -1, false)
	r.Peers[0].Behind = []int{-1}
	holdStep(t, r, 10, 10, -1, false)
	holdFind(t, r, 10, 10, nobody, false)
}

// Of Ids that are some times round from each other the first one that is known is named.
func TestTheFirstOneOfThoseAlike(t *testing.T) {
	for _, c := range []struct{ known, fingers []int }{
		{[]int{40, 300, 44}, nil}, {[]int{40, 300}, []int{44}}, {[]int{40}, []int{300, 44, 300}}, {[]int{300, 44}, []int{44}},
	} {
		r := asking(c.known, c.fingers...)
		r.Peers = append(r.Peers, row([]int{44, 300}).Peers...)
		holdStep(t, r, 10, 100, 300, false)
	}
}

// What is found hangs on nobody but those that are asked.
func TestOthersDoNotMatter(t *testing.T) {
	d := dice(105)
	for range 200 {
		r := impl.RingNew([]int{10, 80, 150, 220, 30, 100, 240})
		by, key := []int{10, 80, 150, 220}[d.below(4)], d.below(256)
		want, _ := impl.Find(r, by, key)
		for i := range r.Peers {
			r.Peers[i].Ahead, r.Peers[i].Shelves = d.below(256), manyShelves(d.below(4))
		}
		slices.Reverse(r.Peers)
		holdFind(t, r, by, key, want, true)
	}
}

func TestRingsAreLeftAsTheyAreFound(t *testing.T) {
	d := dice(106)
	for i := range 60 {
		was := thrownRing(&d)
		if i%3 == 0 {
			was = ringOf(4 + i%5)
			was.Peers[1].Shelves = rightPeer().Shelves
		}
		r := ringWithRoom(was)
		for _, p := range was.Peers {
			for key := -20; key < 280; key += 15 {
				impl.StepTo(r, p.Id, key)
				impl.Find(r, p.Id, key)
			}
			impl.StepTo(r, p.Id, p.Id)
			impl.Find(r, p.Id, p.Id)
		}
		if !ringUntouched(r, was) {
			t.Fatalf("the ring was written into: %+v", r)
		}
	}
}

// An answer hangs neither on the one before it nor on those that are asked for at the same time.
func TestManyFindAtOnce(t *testing.T) {
	d := dice(107)
	var rings []ring
	for range 20 {
		rings = append(rings, thrownRing(&d))
	}
	var group sync.WaitGroup
	for by := range 8 {
		group.Go(func() {
			for i := range rings {
				r, id, key := rings[(i+by)%20], 20*(i%5), 7*i+by
				got, ok := impl.Find(r, id, key)
				want, wantOk := findPlainly(r, id, key)
				to, found := impl.StepTo(r, id, key)
				wantTo, wantFound := stepToPlainly(r, id, key)
				if got != want || ok != wantOk || to != wantTo || found != wantFound {
					t.Errorf("another answer of %+v by %d for %d", r, id, key)
				}
			}
		})
	}
	group.Wait()
}

// Many peers, and many that one knows, are no more than a while's work.
func TestFoundAmongMany(t *testing.T) {
	const many = 200000
	peers := make([]peer, many)
	for i := range many {
		peers[i] = peer{Id: i, Here: true, Behind: []int{(i + 1) % many}}
	}
	r := ring{Peers: peers}
	for _, c := range []struct {
		by, key, owner, hops int
	}{{0, 65, 65, 65}, {0, 64, 64, 64}, {100, 165, 165, 65}} {
		if got, ok := impl.Find(r, c.by, c.key); !ok || got != (trip{Owner: c.owner, Hops: c.hops}) {
			t.Errorf("of many: %+v, %v", got, ok)
		}
	}
	if got, ok := impl.Find(r, 0, 66); ok || got != nobody {
		t.Errorf("of many: %+v, %v", got, ok)
	}
	peers[0].Fingers = slices.Repeat(numbered(0, 199), many/200)
	if to, found := impl.StepTo(r, 0, 200); to != 199 || found {
		t.Errorf("of many known: %d, %v", to, found)
	}
}
