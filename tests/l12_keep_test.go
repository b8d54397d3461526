package tests

import (
	"slices"
	"strings"
	"sync"
	"testing"

	"loop.example/g00474/impl"
)

// notes are Items of these texts; one with a mark ahead of it is Gone.
func notes(texts ...string) []item {
	var list []item
	for _, text := range texts {
		bare, gone := strings.CutPrefix(text, "!")
		list = append(list, item{Text: bare, Gone: gone})
	}
	return list
}

func onShelf(key int, texts ...string) shelf { return shelf{Key: key, Items: notes(texts...)} }

// keeping is the one with these shelves alone.
func keeping(p peer, shelves ...shelf) peer {
	p.Shelves = shelves
	return p
}

func shelfPlainly(p peer, key int) []item {
	var list []item
	for _, s := range p.Shelves {
		for _, it := range s.Items {
			if s.Key == key {
				list = append(list, it)
			}
		}
	}
	return list
}

func mergedPlainly(a []item, b []item) []item {
	gone := map[string]bool{}
	var texts []string
	for _, it := range slices.Concat(a, b) {
		if _, met := gone[it.Text]; !met {
			texts = append(texts, it.Text)
		}
		gone[it.Text] = gone[it.Text] || it.Gone
	}
	slices.Sort(texts)
	var list []item
	for _, text := range texts {
		list = append(list, item{Text: text, Gone: gone[text]})
	}
	return list
}

func putPlainly(p peer, key int, list []item) (peer, bool) {
	next := copiedPeer(p)
	at := slices.IndexFunc(next.Shelves, func(s shelf) bool { return s.Key == key })
	if at < 0 {
		at = 0
		for at < len(next.Shelves) && next.Shelves[at].Key < key {
			at++
		}
		next.Shelves = slices.Insert(next.Shelves, at, shelf{Key: key})
	}
	next.Shelves[at].Items = mergedPlainly(next.Shelves[at].Items, list)
	if !peerRight(next) {
		return copiedPeer(p), false
	}
	return next, true
}

func holdersPlainly(r ring, id int) []int {
	if !isHere(r, id) {
		return nil
	}
	list := []int{id}
	for _, other := range r.Peers[placePlainly(r, id, true)].Behind {
		if isHere(r, other) && !slices.Contains(list, other) && len(list) < 3 {
			list = append(list, other)
		}
	}
	return list
}

func publishPlainly(r ring, by int, key int, list []item) (ring, int) {
	next, took := copiedRing(r), 0
	way, found := findPlainly(r, by, key)
	if !found {
		return next, 0
	}
	for _, id := range holdersPlainly(r, way.Owner) {
		at := placePlainly(r, id, true)
		p, ok := putPlainly(next.Peers[at], key, list)
		next.Peers[at] = p
		if ok {
			took++
		}
	}
	return next, took
}

func fetchPlainly(r ring, by int, key int) ([]item, bool) {
	way, found := findPlainly(r, by, key)
	if !found {
		return nil, false
	}
	var list []item
	for _, id := range holdersPlainly(r, way.Owner) {
		list = mergedPlainly(list, shelfPlainly(r.Peers[placePlainly(r, id, true)], key))
	}
	return list, true
}

// spreadPlainly takes shelf by shelf, the least key first; those that are alike are told apart by the places at which they stood.
func spreadPlainly(r ring, id int) ring {
	next := copiedRing(r)
	at := placePlainly(r, id, true)
	if at < 0 {
		return next
	}
	stood := numbered(0, len(r.Peers[at].Shelves)-1)
	order := slices.Clone(stood)
	slices.SortStableFunc(order, func(a int, b int) int { return r.Peers[at].Shelves[a].Key - r.Peers[at].Shelves[b].Key })
	for _, n := range order {
		place := slices.Index(stood, n)
		s := next.Peers[at].Shelves[place]
		after, took := publishPlainly(next, id, s.Key, s.Items)
		way, _ := findPlainly(next, id, s.Key)
		next = after
		if took > 0 && !slices.Contains(holdersPlainly(next, way.Owner), id) {
			next.Peers[at].Shelves = slices.Delete(next.Peers[at].Shelves, place, place+1)
			stood = slices.Delete(stood, place, place+1)
		}
	}
	return next
}

func leftPlainly(r ring, id int) (ring, bool) {
	given := copiedRing(r)
	if at := placePlainly(r, id, true); at >= 0 {
		next, follows := nextPlainly(r, id)
		for _, s := range r.Peers[at].Shelves {
			if follows {
				to := placePlainly(r, next, true)
				given.Peers[to], _ = putPlainly(given.Peers[to], s.Key, s.Items)
			}
		}
	}
	if went, ok := gonePlainly(given, id, -1); ok {
		return went, true
	}
	return copiedRing(r), false
}

func holdShelf(t *testing.T, p peer, key int, want []item) {
	t.Helper()
	if got := impl.ShelfOf(p, key); !slices.Equal(got, want) || !slices.Equal(shelfPlainly(p, key), want) {
		t.Errorf("ShelfOf(%+v, %d) = %v; want %v", p, key, got, want)
	}
}

func holdMerged(t *testing.T, a []item, b []item, want []item) {
	t.Helper()
	if got := impl.Merged(a, b); !slices.Equal(got, want) || !slices.Equal(mergedPlainly(a, b), want) {
		t.Errorf("Merged(%v, %v) = %v; want %v", a, b, got, want)
	}
}

func holdPut(t *testing.T, p peer, key int, list []item, want peer, wantOk bool) {
	t.Helper()
	if !wantOk {
		want = p
	}
	if got, ok := impl.Put(p, key, list); ok != wantOk || !samePeer(got, want) {
		t.Errorf("Put(%+v, %d, %v) = %+v, %v; want %+v, %v", p, key, list, got, ok, want, wantOk)
	}
	if got, ok := putPlainly(p, key, list); ok != wantOk || !samePeer(got, want) {
		t.Errorf("plainly: put to %+v at %d %v = %+v, %v", p, key, list, got, ok)
	}
}

func holdHolders(t *testing.T, r ring, id int, want ...int) {
	t.Helper()
	if got := impl.HoldersOf(r, id); !slices.Equal(got, want) || !slices.Equal(holdersPlainly(r, id), want) {
		t.Errorf("HoldersOf(%+v, %d) = %v; want %v", r.Peers, id, got, want)
	}
}

func holdPublish(t *testing.T, r ring, by int, key int, list []item, want ring, wantTook int) {
	t.Helper()
	if got, took := impl.Publish(r, by, key, list); took != wantTook || !sameRing(got, want) {
		t.Errorf("Publish(%+v, %d, %d, %v) = %+v, %d; want %+v, %d", r.Peers, by, key, list, got.Peers, took, want.Peers, wantTook)
	}
	if got, took := publishPlainly(r, by, key, list); took != wantTook || !sameRing(got, want) {
		t.Errorf("plainly: published by %d at %d = %+v, %d", by, key, got.Peers, took)
	}
}

func holdFetch(t *testing.T, r ring, by int, key int, want []item, wantOk bool) {
	t.Helper()
	if got, ok := impl.Fetch(r, by, key); ok != wantOk || !slices.Equal(got, want) {
		t.Errorf("Fetch(%+v, %d, %d) = %v, %v; want %v, %v", r.Peers, by, key, got, ok, want, wantOk)
	}
	if got, ok := fetchPlainly(r, by, key); ok != wantOk || !slices.Equal(got, want) {
		t.Errorf("plainly: fetched by %d at %d = %v, %v", by, key, got, ok)
	}
}

func holdSpread(t *testing.T, r ring, id int, want ring) {
	t.Helper()
	if got := impl.Spread(r, id); !sameRing(got, want) {
		t.Errorf("Spread(%+v, %d) = %+v; want %+v", r.Peers, id, got.Peers, want.Peers)
	}
	if got := spreadPlainly(r, id); !sameRing(got, want) {
		t.Errorf("plainly: %d spreads %+v", id, got.Peers)
	}
}

func holdLeft(t *testing.T, r ring, id int, want ring, wantOk bool) {
	t.Helper()
	if !wantOk {
		want = r
	}
	if got, ok := impl.Left(r, id); ok != wantOk || !sameRing(got, want) {
		t.Errorf("Left(%+v, %d) = %+v, %v; want %+v, %v", r.Peers, id, got.Peers, ok, want.Peers, wantOk)
	}
	if got, ok := leftPlainly(r, id); ok != wantOk || !sameRing(got, want) {
		t.Errorf("plainly: %d left %+v, %v", id, got.Peers, ok)
	}
}

func TestShelvesByHand(t *testing.T) {
	p := rightPeer()
	holdShelf(t, p, 3, notes("", "a", "!a\x00", "b"))
	holdShelf(t, p, 4, nil)
	holdShelf(t, p, 90, notes("!a"))
	for _, key := range []int{-1, 0, 2, 5, 89, 91, 255, 256, 259, 346, -253} {
		holdShelf(t, p, key, nil)
	}
	holdShelf(t, peer{}, 0, nil)
	holdShelf(t, ringOf(4).Peers[0], 10, nil)
	// Whatever stands there, of one that is not right, too.
	p = peer{Id: 30, Shelves: []shelf{onShelf(9, "b", "a", "b", "!b"), onShelf(-1, "x"), onShelf(300, "!y"), onShelf(4, "c"), onShelf(9), onShelf(9, "!c", "a")}}
	holdShelf(t, p, 9, notes("b", "a", "b", "!b", "!c", "a"))
	holdShelf(t, p, -1, notes("x"))
	holdShelf(t, p, 300, notes("!y"))
	holdShelf(t, p, 44, nil)
	holdShelf(t, p, 4, notes("c"))
}

func TestMergedByHand(t *testing.T) {
	for _, c := range []struct{ a, b, want []item }{
		{nil, nil, nil},
		{notes("a"), nil, notes("a")}, {nil, notes("!a"), notes("!a")},
		{notes("a"), notes("a"), notes("a")}, {notes("!a"), notes("a"), notes("!a")}, {notes("a"), notes("!a"), notes("!a")}, {notes("!a"), notes("!a"), notes("!a")},
		{notes("a", "c"), notes("b", "d"), notes("a", "b", "c", "d")}, {notes("c", "d"), notes("a", "b"), notes("a", "b", "c", "d")},
		{notes("d", "!b", "a"), notes("c", "a"), notes("a", "!b", "c", "d")},
		{notes("a", "a", "!a"), nil, notes("!a")}, {nil, notes("!a", "a", "a"), notes("!a")}, {notes("b", "!a", "b", "a"), notes("a", "!b"), notes("!a", "!b")},
		{notes("a\x00", "a", ""), notes("!", "\xff", "Z"), notes("!", "Z", "a", "a\x00", "\xff")},
		{notes("ab", "b"), notes("a", "aa"), notes("a", "aa", "ab", "b")},
		{notes("10", "9"), notes("1", "09"), notes("09", "1", "10", "9")},
	} {
		holdMerged(t, c.a, c.b, c.want)
		holdMerged(t, c.b, c.a, c.want)
		holdMerged(t, c.want, c.a, c.want)
	}
	// No limit of a shelf is one of Merged.
	long := notes(strings.Repeat("x", 601), strings.Repeat("x", 600))
	holdMerged(t, long, manyItems(301), slices.Concat(manyItems(301), notes(strings.Repeat("x", 600), strings.Repeat("x", 601))))
}

func thrownItems(d *dice) []item {
	var list []item
	for range d.below(7) {
		list = append(list, item{Text: []string{"", "a", "a\x00", "aa", "b", "c", "\xff"}[d.below(7)], Gone: d.below(4) == 0})
	}
	return list
}

func TestMergedOfThrownItems(t *testing.T) {
	d := dice(120)
	for range 4000 {
		a, b, c := thrownItems(&d), thrownItems(&d), thrownItems(&d)
		both := mergedPlainly(a, b)
		holdMerged(t, a, b, both)
		holdMerged(t, b, a, both)
		holdMerged(t, both, both, both)
		holdMerged(t, a, impl.Merged(b, c), mergedPlainly(both, c))
		if t.Failed() {
			t.FailNow()
		}
	}
}

func TestPutByHand(t *testing.T) {
	p := rightPeer()
	first, second, third := p.Shelves[0], p.Shelves[1], p.Shelves[2]
	for _, c := range []struct {
		key  int
		list []item
		want []shelf
	}{
		{3, notes("a"), p.Shelves}, {3, nil, p.Shelves}, {4, nil, p.Shelves}, {90, notes("a"), p.Shelves}, {90, notes("a", "!a"), p.Shelves},
		{3, notes("c", "!", "aa"), []shelf{onShelf(3, "!", "a", "!a\x00", "aa", "b", "c"), second, third}},
		{3, notes("c", "!b", "c"), []shelf{onShelf(3, "", "a", "!a\x00", "!b", "c"), second, third}},
		{4, notes("y", "!x"), []shelf{first, onShelf(4, "!x", "y"), third}},
		{90, notes("b"), []shelf{first, second, onShelf(90, "!a", "b")}},
		{0, notes("b", "a", "!b"), []shelf{onShelf(0, "a", "!b"), first, second, third}},
		{5, notes("a"), []shelf{first, second, onShelf(5, "a"), third}},
		{255, notes("a"), []shelf{first, second, third, onShelf(255, "a")}},
		// A shelf without items is one, too.
		{0, nil, []shelf{{Key: 0}, first, second, third}}, {50, nil, []shelf{first, second, {Key: 50}, third}},
	} {
		want := copiedPeer(p)
		want.Shelves = c.want
		holdPut(t, p, c.key, c.list, want, true)
	}
	none := ringOf(4).Peers[0]
	holdPut(t, none, 7, notes("a"), keeping(none, onShelf(7, "a")), true)
	holdPut(t, none, 7, nil, keeping(none, onShelf(7)), true)
}

// Two of each at its limit are taken, and one past it is not.
func TestPutAtItsLimits(t *testing.T) {
	none := ringOf(4).Peers[0]
	for _, key := range []int{0, 255} {
		holdPut(t, none, key, notes("a"), keeping(none, onShelf(key, "a")), true)
	}
	for _, key := range []int{-1, 256, 300, -256, 1 << 40} {
		holdPut(t, none, key, notes("a"), none, false)
		holdPut(t, none, key, nil, none, false)
	}
	long := strings.Repeat("x", 600)
	holdPut(t, none, 9, notes("a", long), keeping(none, onShelf(9, "a", long)), true)
	holdPut(t, none, 9, notes("a", long+"x"), none, false)
	holdPut(t, none, 9, notes("a", "!"+long+"x"), none, false)
	full := keeping(none, shelf{Key: 9, Items: manyItems(300)})
	holdPut(t, none, 9, manyItems(300), full, true)
	holdPut(t, none, 9, manyItems(301), none, false)
	holdPut(t, none, 9, slices.Concat(manyItems(300), manyItems(300)), full, true)
	holdPut(t, full, 9, manyItems(300), full, true)
	holdPut(t, full, 9, manyItems(301), full, false)
	holdPut(t, full, 9, notes("other"), full, false)
	holdPut(t, full, 9, nil, full, true)
	holdPut(t, full, 8, notes("other"), keeping(none, onShelf(8, "other"), full.Shelves[0]), true)
	holdPut(t, keeping(none, shelf{Key: 9, Items: manyItems(299)}), 9, manyItems(300)[299:], full, true)
	for _, key := range []int{1, 100, 254} {
		some := keeping(none, manyShelves(79)...)
		more, ok := impl.Put(some, key, notes("a"))
		holdPut(t, some, key, notes("a"), more, true)
		if !ok || len(more.Shelves) != 80 {
			t.Errorf("at %d: %d shelves", key, len(more.Shelves))
		}
		holdPut(t, more, 2, notes("a"), more, false)
		holdPut(t, more, 2, nil, more, false)
		holdPut(t, more, key, notes("!a"), with(ring{Peers: []peer{more}}, 0, goneOn(more, key)).Peers[0], true)
	}
}

// goneOn has all of this key Gone.
func goneOn(p peer, key int) peer {
	p = copiedPeer(p)
	for _, s := range p.Shelves {
		for i := range s.Items {
			s.Items[i].Gone = s.Items[i].Gone || s.Key == key
		}
	}
	return p
}

// It is asked of the whole of it whether it would be right then: its own shelf comes into order, and nothing else does.
func TestPutToThoseThatAreNotRight(t *testing.T) {
	p := rightPeer()
	holdPut(t, peer{Id: 30}, 5, notes("a"), peer{}, false)
	holdPut(t, peer{Id: 30}, 5, nil, peer{}, false)
	holdPut(t, peer{}, 0, nil, peer{}, false)
	odd := keeping(peer{Id: 30}, onShelf(5, "a"))
	holdPut(t, odd, 5, notes("a"), odd, false)
	for why, change := range map[string]func(p *peer){
		"Id":                     func(p *peer) { p.Id = 256 },
		"Ahead":                  func(p *peer) { p.Ahead = -2 },
		"too many behind":        func(p *peer) { p.Behind = []int{1, 2, 3, 4} },
		"itself behind":          func(p *peer) { p.Behind[1] = 10 },
		"no fingers":             func(p *peer) { p.Fingers = nil },
		"Keys that descend":      func(p *peer) { p.Shelves = []shelf{onShelf(5, "a"), onShelf(4, "a")} },
		"Keys that ascend above": func(p *peer) { p.Shelves = []shelf{onShelf(200), onShelf(4), onShelf(6)} },
		"a Key twice":            func(p *peer) { p.Shelves = []shelf{onShelf(4, "a"), onShelf(4, "b")} },
		"the same one twice":     func(p *peer) { p.Shelves = []shelf{onShelf(4, "a"), onShelf(4, "a")} },
		"a Key twice, and empty": func(p *peer) { p.Shelves = []shelf{onShelf(4, "a"), onShelf(4)} },
		"another Key twice":      func(p *peer) { p.Shelves = []shelf{onShelf(4, "a"), onShelf(9), onShelf(9)} },
		"a Key off the ring":     func(p *peer) { p.Shelves = append(p.Shelves, onShelf(256, "a")) },
		"a Key below":            func(p *peer) { p.Shelves = append([]shelf{onShelf(-1)}, p.Shelves...) },
		"items that descend":     func(p *peer) { p.Shelves[0].Items = notes("b", "a") },
		"an item twice":          func(p *peer) { p.Shelves[0].Items = notes("a", "a") },
		"too many items":         func(p *peer) { p.Shelves[2].Items = manyItems(301) },
		"a long item":            func(p *peer) { p.Shelves[1].Items = notes(strings.Repeat("x", 601)) },
		"too many shelves":       func(p *peer) { p.Shelves = manyShelves(81) },
	} {
		wrong := copiedPeer(p)
		change(&wrong)
		for _, key := range []int{0, 5, 6, 8, 201, 255, 256, -1} {
			holdPut(t, wrong, key, notes("a"), wrong, false)
			holdPut(t, wrong, key, nil, wrong, false)
		}
		if why != "a long item" {
			holdPut(t, wrong, 4, notes("b"), wrong, false)
		}
		if t.Failed() {
			t.Fatal(why)
		}
	}
	for _, own := range [][]item{notes("b", "a"), notes("a", "b", "a"), notes("b", "b", "!a", "a", "!a")} {
		wrong := keeping(p, p.Shelves[0], shelf{Key: 4, Items: own}, p.Shelves[2])
		for _, list := range [][]item{nil, notes("b"), notes("c", "!b")} {
			holdPut(t, wrong, 4, list, keeping(p, p.Shelves[0], shelf{Key: 4, Items: mergedPlainly(own, list)}, p.Shelves[2]), true)
		}
	}
	twice := keeping(p, shelf{Key: 4, Items: slices.Concat(manyItems(300), manyItems(1))})
	holdPut(t, twice, 4, nil, keeping(p, shelf{Key: 4, Items: manyItems(300)}), true)
	holdPut(t, twice, 4, manyItems(301), twice, false)
}

func TestHoldersByHand(t *testing.T) {
	r := ringOf(6)
	holdHolders(t, r, 10, 10, 80, 150)
	holdHolders(t, r, 150, 150, 220, 10)
	for _, id := range []int{30, 99, -1, 266, 11, 0} {
		holdHolders(t, r, id)
	}
	holdHolders(t, ring{}, 10)
	for _, c := range []struct{ known, want []int }{
		{nil, []int{10}}, {[]int{80}, []int{10, 80}}, {[]int{80, 150}, []int{10, 80, 150}}, {[]int{80, 150, 220}, []int{10, 80, 150}}, {[]int{150, 80, 220, 30}, []int{10, 150, 80}},
		{[]int{80, 80, 150}, []int{10, 80, 150}}, {[]int{80, 80, 80, 220, 150}, []int{10, 80, 220}}, {[]int{80, 150, 80}, []int{10, 80, 150}}, {[]int{80, 80}, []int{10, 80}},
		{[]int{10, 80, 150}, []int{10, 80, 150}}, {[]int{80, 10, 150}, []int{10, 80, 150}}, {[]int{10, 10, 10}, []int{10}},
		{[]int{30, 80, 150}, []int{10, 80, 150}}, {[]int{30, 40, 99}, []int{10}}, {[]int{80, 30, 150}, []int{10, 80, 150}}, {[]int{99, 220, 30, 40, 150, 80}, []int{10, 220, 150}}, {[]int{-1, 336, 80}, []int{10, 80}},
	} {
		holdHolders(t, with(r, 0, knowingOnly(10, c.known...)), 10, c.want...)
	}
	// It is the first one with this Id that is Here, and whoever is Here holds, whatever their Ids are.
	holdHolders(t, ring{Peers: []peer{{Id: 10, Behind: []int{300}}, knowingOnly(10, -1), knowingOnly(10, 300), knowingOnly(-1, 10), knowingOnly(300, -1, 300, 10)}}, 10, 10, -1)
	holdHolders(t, ring{Peers: []peer{knowingOnly(10, 40, -1), knowingOnly(-1, 300, 10), knowingOnly(300), {Id: 300}, {Id: 40}}}, -1, -1, 300, 10)
	// Whom one knows otherwise does not matter.
	apart := knowingPlainly([]int{10, 80, 150, 220}, 10)
	apart.Behind = []int{220}
	holdHolders(t, with(r, 0, apart), 10, 10, 220)
}

// shelved is the ring in which those at these places have this shelf alone.
func shelved(r ring, s shelf, places ...int) ring {
	r = copiedRing(r)
	for _, at := range places {
		r.Peers[at].Shelves = []shelf{{Key: s.Key, Items: slices.Clone(s.Items)}}
	}
	return r
}

func TestPublishedByHand(t *testing.T) {
	r := ringOf(5)
	for _, by := range []int{10, 80, 150, 220} {
		holdPublish(t, r, by, 100, notes("y", "!x"), shelved(r, onShelf(100, "!x", "y"), 2, 3, 0), 3)
		holdPublish(t, r, by, 221, notes("x"), shelved(r, onShelf(221, "x"), 0, 1, 2), 3)
		holdPublish(t, r, by, 10, notes("x"), shelved(r, onShelf(10, "x"), 0, 1, 2), 3)
		holdPublish(t, r, by, 0, notes("x"), shelved(r, onShelf(0, "x"), 0, 1, 2), 3)
		holdPublish(t, r, by, 220, nil, shelved(r, onShelf(220), 3, 0, 1), 3)
		// A key off the ring belongs to somebody, but nobody may keep it.
		for _, key := range []int{-1, 256, 356, -156} {
			holdPublish(t, r, by, key, notes("x"), r, 0)
			holdPublish(t, r, by, key, nil, r, 0)
		}
		holdPublish(t, r, by, 100, notes(strings.Repeat("x", 601)), r, 0)
	}
	for _, by := range []int{30, 99, -1, 266} {
		holdPublish(t, r, by, 100, notes("x"), r, 0)
	}
	holdPublish(t, ring{}, 10, 100, notes("x"), ring{}, 0)
	lost := with(r, 1, knowingOnly(80))
	holdPublish(t, lost, 80, 100, notes("x"), lost, 0)
	holdPublish(t, lost, 10, 100, notes("x"), lost, 0)
	holdPublish(t, lost, 10, 160, notes("x"), shelved(lost, onShelf(160, "x"), 3, 0, 1), 3)
	holdPublish(t, lost, 10, 70, notes("x"), shelved(lost, onShelf(70, "x"), 1), 1)
	// When somebody has the Id of nobody, what is not found is still kept by none.
	nobodys := ring{Peers: []peer{keeping(knowingOnly(-1, 10)), knowingOnly(10, 40)}}
	holdPublish(t, nobodys, 10, 5, notes("x"), nobodys, 0)
	holdFetch(t, shelved(nobodys, onShelf(5, "x"), 0, 1), 10, 5, nil, false)
}

// Who can not take it keeps what they have, and the others take it all the same.
func TestPublishedToThoseThatCanNotTakeIt(t *testing.T) {
	r := shelved(ringOf(5), shelf{Key: 100, Items: manyItems(300)}, 3)
	want := with(with(r, 0, keeping(r.Peers[0], onShelf(100, "x"))), 2, keeping(r.Peers[2], onShelf(100, "x")))
	holdPublish(t, r, 80, 100, notes("x"), want, 2)
	r.Peers[0].Shelves = manyShelves(80)
	want.Peers[0].Shelves = manyShelves(80)
	holdPublish(t, r, 80, 100, notes("x"), want, 1)
	r.Peers[2].Fingers, want.Peers[2] = nil, copiedPeer(r.Peers[2])
	want.Peers[2].Fingers = nil
	holdPublish(t, r, 80, 100, notes("x"), r, 0)
	holdPublish(t, r, 80, 100, manyItems(1), r, 1)
	// Of two with the same Id the one that PeerAt tells takes it, and it takes it once.
	twice := ring{Peers: []peer{{Id: 10}, knowingOnly(10, 80, 80, 99), knowingOnly(10, 80), knowingOnly(80, 10)}}
	holdPublish(t, twice, 80, 90, notes("x"), shelved(twice, onShelf(90, "x"), 1, 3), 2)
	holdPublish(t, twice, 80, 20, notes("x"), shelved(twice, onShelf(20, "x"), 1, 3), 2)
}

func TestFetchedByHand(t *testing.T) {
	r := ringOf(5)
	holdFetch(t, r, 10, 100, nil, true)
	holdFetch(t, shelved(r, onShelf(100), 2), 10, 100, nil, true)
	for at, want := range [][]item{notes("x"), nil, notes("x"), notes("x")} {
		holdFetch(t, shelved(r, onShelf(100, "x"), at), 10, 100, want, true)
		holdFetch(t, shelved(r, onShelf(100, "x"), at), 150, 100, want, true)
		holdFetch(t, shelved(r, onShelf(101, "x"), at), 10, 100, nil, true)
	}
	for _, by := range []int{30, 99, -1, 266} {
		holdFetch(t, shelved(r, onShelf(100, "x"), 0, 1, 2, 3), by, 100, nil, false)
	}
	holdFetch(t, ring{}, 10, 100, nil, false)
	lost := with(r, 1, knowingOnly(80))
	holdFetch(t, shelved(lost, onShelf(100, "x"), 0, 1, 2, 3), 80, 100, nil, false)
	// One that has it Gone is enough.
	r.Peers[2].Shelves = []shelf{onShelf(100, "a", "b", "d")}
	r.Peers[3].Shelves = []shelf{onShelf(100, "!b", "c"), onShelf(101, "y")}
	r.Peers[0].Shelves = []shelf{onShelf(99, "z"), onShelf(100, "b", "!d")}
	r.Peers[1].Shelves = []shelf{onShelf(100, "no", "!a")}
	for _, by := range []int{10, 80, 150, 220} {
		holdFetch(t, r, by, 100, notes("a", "!b", "c", "!d"), true)
		holdFetch(t, r, by, 356, nil, true)
	}
	// A shelf of a key off the ring is with whom the key belongs to, and out of order it comes into order.
	r.Peers[2].Shelves = append(r.Peers[2].Shelves, onShelf(356, "b", "a", "b"), onShelf(356, "!c", "!a"))
	holdFetch(t, r, 80, 356, notes("!a", "b", "!c"), true)
	holdFetch(t, r, 80, -156, nil, true)
	holdFetch(t, r, 80, 100, notes("a", "!b", "c", "!d"), true)
}

func TestSpreadByHand(t *testing.T) {
	r := ringOf(5)
	for _, id := range []int{10, 80, 150, 220, 30, 99, -1, 266} {
		holdSpread(t, r, id, r)
	}
	holdSpread(t, ring{}, 10, ring{})
	// 80 is no holder of 100, and so has no shelf of it then; 10, 150 and 220 are.
	all := shelved(r, onShelf(100, "!x", "y"), 2, 3, 0)
	holdSpread(t, shelved(r, onShelf(100, "!x", "y"), 1), 80, all)
	for i, id := range []int{10, 80, 150, 220} {
		holdSpread(t, all, id, all)
		if id != 80 {
			holdSpread(t, shelved(r, onShelf(100, "!x", "y"), i), id, all)
		}
	}
	holdSpread(t, shelved(r, onShelf(100), 1), 80, shelved(r, onShelf(100), 2, 3, 0))
	holdSpread(t, shelved(r, onShelf(100), 2), 150, shelved(r, onShelf(100), 2, 3, 0))
	// Each of its shelves has holders of its own.
	many := with(r, 1, keeping(r.Peers[1], onShelf(5, "a"), onShelf(90, "b"), onShelf(140), onShelf(221, "!c"), onShelf(255, "d")))
	want := copiedRing(r)
	want.Peers[0].Shelves = []shelf{onShelf(5, "a"), onShelf(90, "b"), onShelf(140), onShelf(221, "!c"), onShelf(255, "d")}
	want.Peers[1].Shelves = []shelf{onShelf(5, "a"), onShelf(221, "!c"), onShelf(255, "d")}
	want.Peers[2].Shelves = want.Peers[0].Shelves
	want.Peers[3].Shelves = []shelf{onShelf(90, "b"), onShelf(140)}
	holdSpread(t, many, 80, want)
	// What the others have stays with them, and what it did not know it is not told, when it gives its own away.
	some := with(shelved(r, onShelf(100, "a", "!b"), 3), 1, keeping(r.Peers[1], onShelf(100, "b", "c")))
	want = shelved(r, onShelf(100, "b", "c"), 0, 2)
	want.Peers[3].Shelves = []shelf{onShelf(100, "a", "!b", "c")}
	holdSpread(t, some, 80, want)
	some = with(shelved(r, onShelf(100, "a", "!b"), 3), 0, keeping(r.Peers[0], onShelf(100, "b", "c")))
	holdSpread(t, some, 10, want)
}

// What nobody takes stays where it is.
func TestShelvesThatNobodyTakes(t *testing.T) {
	r := shelved(ringOf(5), shelf{Key: 100, Items: manyItems(300)}, 0, 2, 3)
	stays := with(r, 1, keeping(r.Peers[1], onShelf(100, "x")))
	holdSpread(t, stays, 80, stays)
	goes := with(stays, 3, keeping(r.Peers[3], onShelf(100)))
	holdSpread(t, goes, 80, with(with(goes, 1, r.Peers[1]), 3, keeping(r.Peers[3], onShelf(100, "x"))))
	stays = with(r, 1, keeping(r.Peers[1], onShelf(100, "x"), onShelf(101, "y")))
	want := with(r, 1, keeping(r.Peers[1], onShelf(100, "x")))
	for _, at := range []int{0, 2, 3} {
		want.Peers[at].Shelves = append(want.Peers[at].Shelves, onShelf(101, "y"))
	}
	holdSpread(t, stays, 80, want)
	// Nobody is found.
	lost := with(ringOf(5), 1, keeping(knowingOnly(80), onShelf(100, "x"), onShelf(80, "y")))
	holdSpread(t, lost, 80, lost)
	alone := ring{Peers: []peer{keeping(knowingOnly(80, 30), onShelf(100, "x")), {Id: 30}}}
	holdSpread(t, alone, 80, alone)
	// A shelf that nobody may have, and those behind it.
	odd := with(ringOf(5), 1, keeping(ringOf(5).Peers[1], onShelf(356, "x"), onShelf(100, "y"), onShelf(-1, "z")))
	want = shelved(ringOf(5), onShelf(100, "y"), 0, 2, 3)
	want.Peers[1].Shelves = []shelf{onShelf(356, "x"), onShelf(-1, "z")}
	holdSpread(t, odd, 80, want)
	// Not Here, and yet with a shelf.
	gone := with(ringOf(5), 4, keeping(peer{Id: 30}, onShelf(100, "x")))
	holdSpread(t, gone, 30, gone)
	holdSpread(t, gone, 80, gone)
}

// The least key goes first, which is told where there is room for one more alone; one that goes makes room at once.
func TestShelvesGoInTheOrderOfTheirKeys(t *testing.T) {
	r := with(ringOf(5), 0, keeping(ringOf(5).Peers[0], manyShelves(79)...))
	for _, at := range []int{2, 3} {
		r.Peers[at].Fingers = nil
	}
	r.Peers[1].Shelves = []shelf{onShelf(100, "x"), onShelf(101, "y"), onShelf(103, "z")}
	got := impl.Spread(r, 80)
	holdSpread(t, r, 80, got)
	if len(got.Peers[0].Shelves) != 80 || !slices.Equal(impl.ShelfOf(got.Peers[0], 100), notes("x")) || len(got.Peers[1].Shelves) != 2 {
		t.Errorf("spread: %+v", got.Peers[1])
	}
	r.Peers[1].Shelves = []shelf{onShelf(103, "z"), onShelf(101, "y"), onShelf(100, "x")}
	got = impl.Spread(r, 80)
	holdSpread(t, r, 80, got)
	if !slices.Equal(impl.ShelfOf(got.Peers[0], 100), notes("x")) || !slices.EqualFunc(got.Peers[1].Shelves, []shelf{onShelf(103, "z"), onShelf(101, "y")}, sameShelf) {
		t.Errorf("spread: %+v", got.Peers[1])
	}
	// 10 has one too many: when one has gone to others it may keep the next one, whose items come into order then.
	full := with(ringOf(5), 0, keeping(ringOf(5).Peers[0], slices.Concat([]shelf{onShelf(0, "n")}, manyShelves(81)[1:80], []shelf{onShelf(250, "b", "a", "b")})...))
	got = impl.Spread(full, 10)
	holdSpread(t, full, 10, got)
	if len(got.Peers[0].Shelves) >= 80 || !slices.Equal(impl.ShelfOf(got.Peers[0], 250), notes("a", "b")) {
		t.Errorf("spread: %+v", got.Peers[0])
	}
}

// A key that stands twice is given away shelf by shelf.
func TestShelvesThatAreThereTwice(t *testing.T) {
	r := ringOf(5)
	for _, shelves := range [][]shelf{
		{onShelf(100, "a"), onShelf(100, "b")}, {onShelf(100, "a"), onShelf(7, "c"), onShelf(100, "!a", "b")}, {onShelf(100), onShelf(100)},
		{onShelf(100, strings.Repeat("x", 601)), onShelf(100, "b")}, {onShelf(100, "b"), onShelf(100, strings.Repeat("x", 601)), onShelf(100, "c")},
		{onShelf(230, "b"), onShelf(100, "b"), onShelf(230, "a"), onShelf(100, "a")},
	} {
		for at, id := range []int{10, 80, 150, 220} {
			twice := with(r, at, keeping(r.Peers[at], shelves...))
			holdSpread(t, twice, id, spreadPlainly(twice, id))
		}
	}
	twice := with(r, 1, keeping(r.Peers[1], onShelf(100, strings.Repeat("x", 601)), onShelf(100, "b")))
	want := shelved(r, onShelf(100, "b"), 0, 2, 3)
	want.Peers[1].Shelves = []shelf{onShelf(100, strings.Repeat("x", 601))}
	holdSpread(t, twice, 80, want)
	// With the same Id twice it is the shelf of the first one that goes, also to one who has its number.
	same := ring{Peers: []peer{knowingOnly(80, 150), keeping(knowingOnly(80, 150), onShelf(100, "x")), knowingOnly(150, 80)}}
	holdSpread(t, same, 80, same)
	same.Peers[0].Shelves = []shelf{onShelf(100, "x")}
	holdSpread(t, same, 80, shelved(same, onShelf(100, "x"), 0, 1, 2))
}

func TestLeftByHand(t *testing.T) {
	r := ringOf(6)
	hereAll(&r)
	went := with(r, 4, peer{Id: 30})
	holdLeft(t, r, 30, went, true)
	shelves := []shelf{onShelf(5, "a", "!b"), onShelf(20), onShelf(100, "x")}
	kept := with(r, 4, keeping(r.Peers[4], shelves...))
	// The next one behind 30 is 40, and it takes them all, whomever they belong to.
	holdLeft(t, kept, 30, with(went, 5, keeping(r.Peers[5], shelves...)), true)
	some := with(kept, 5, keeping(r.Peers[5], onShelf(5, "!a", "b", "c"), onShelf(7), onShelf(100, "w")))
	holdLeft(t, some, 30, with(went, 5, keeping(r.Peers[5], onShelf(5, "!a", "!b", "c"), onShelf(7), onShelf(20), onShelf(100, "w", "x"))), true)
	// Those that stay are as they are, whatever they keep.
	for _, id := range []int{10, 80, 150, 220, 99, -1, 286} {
		holdLeft(t, shelved(kept, onShelf(3, "x"), 0, 1, 2, 3), id, ring{}, false)
	}
	holdLeft(t, ring{}, 30, ring{}, false)
	holdLeft(t, with(kept, 4, keeping(peer{Id: 30}, shelves...)), 30, ring{}, false)
	// 10 would know nobody.
	holdLeft(t, with(kept, 0, knowingOnly(10, 30)), 30, ring{}, false)
	holdLeft(t, with(kept, 0, knowingOnly(10, 30, 99)), 30, ring{}, false)
	holdLeft(t, with(kept, 0, knowingOnly(10, 30, 80)), 30, with(with(went, 0, knowingOnly(10, 30, 80)), 5, keeping(r.Peers[5], shelves...)), true)
	// Its next one is the first one that is Here.
	past := with(kept, 5, peer{Id: 40})
	holdLeft(t, past, 30, with(with(past, 4, peer{Id: 30}), 1, keeping(r.Peers[1], shelves...)), true)
}

// What the next one can not take is lost, and what it can is not; with no next one all is.
func TestLeftWithWhatNobodyTakes(t *testing.T) {
	r := ringOf(6)
	hereAll(&r)
	shelves := []shelf{onShelf(1, "a"), onShelf(5, "a"), onShelf(7, "b"), onShelf(100, "x")}
	kept := with(r, 4, keeping(r.Peers[4], shelves...))
	went := with(r, 4, peer{Id: 30})
	full := with(kept, 5, keeping(r.Peers[5], onShelf(5, "c"), shelf{Key: 7, Items: manyItems(300)}))
	holdLeft(t, full, 30, with(went, 5, keeping(r.Peers[5], onShelf(1, "a"), onShelf(5, "a", "c"), shelf{Key: 7, Items: manyItems(300)}, onShelf(100, "x"))), true)
	// There is room for two more alone, which are the first two.
	full.Peers[5].Shelves = manyShelves(78)
	got, _ := impl.Left(full, 30)
	holdLeft(t, full, 30, got, true)
	if p := got.Peers[5]; len(p.Shelves) != 80 || p.Shelves[1].Key != 1 || p.Shelves[3].Key != 5 || len(impl.ShelfOf(p, 7)) != 0 || len(impl.ShelfOf(p, 100)) != 0 {
		t.Errorf("left: %+v", p)
	}
	// In the order in which they stand.
	full.Peers[4].Shelves = []shelf{onShelf(100, "x"), onShelf(7, "b"), onShelf(5, "a")}
	got, _ = impl.Left(full, 30)
	holdLeft(t, full, 30, got, true)
	if p := got.Peers[5]; len(impl.ShelfOf(p, 100)) != 1 || len(impl.ShelfOf(p, 7)) != 1 || len(impl.ShelfOf(p, 5)) != 0 {
		t.Errorf("left: %+v", p)
	}
	wrong := with(kept, 5, ahead(r.Peers[5], 300))
	holdLeft(t, wrong, 30, with(wrong, 4, peer{Id: 30}), true)
	odd := with(kept, 4, keeping(r.Peers[4], onShelf(300, "a"), onShelf(5, "b", "a"), onShelf(5, "!a"), onShelf(6, strings.Repeat("x", 601))))
	holdLeft(t, odd, 30, with(went, 5, keeping(r.Peers[5], onShelf(5, "!a", "b"))), true)
	// It has no next one, or is its own.
	alone := with(kept, 4, keeping(knowingOnly(30), shelves...))
	holdLeft(t, alone, 30, went, true)
	alone.Peers[4].Behind = []int{99, 286}
	holdLeft(t, alone, 30, went, true)
	alone.Peers[4].Behind = []int{30, 40}
	holdLeft(t, alone, 30, went, true)
	twice := with(r, 4, keeping(r.Peers[4], shelves...))
	twice.Peers = append(twice.Peers, knowingOnly(30, 40), knowingOnly(40, 10))
	want := with(twice, 4, peer{Id: 30})
	want.Peers[5].Shelves = shelves
	holdLeft(t, twice, 30, want, true)
}

// keptIn is what those that are Here keep, key by key.
func keptIn(r ring) map[int][]item {
	all := map[int][]item{}
	for _, p := range r.Peers {
		for _, s := range p.Shelves {
			if p.Here {
				all[s.Key] = mergedPlainly(all[s.Key], s.Items)
			}
		}
	}
	return all
}

func sameKept(a map[int][]item, b map[int][]item) bool {
	for _, all := range []map[int][]item{a, b} {
		for key := range all {
			if !slices.Equal(a[key], b[key]) {
				return false
			}
		}
	}
	return true
}

// spreadAll has all that are Here spread, one after another, and looks whether anything is lost.
func spreadAll(t *testing.T, r ring) ring {
	t.Helper()
	for _, id := range impl.HereOf(r) {
		next := impl.Spread(r, id)
		if !sameRing(next, spreadPlainly(r, id)) || !impl.RingOk(next) || !sameKept(keptIn(next), keptIn(r)) {
			t.Fatalf("Spread(%+v, %d) = %+v", r.Peers, id, next.Peers)
		}
		r = next
	}
	return r
}

// holdKept is for rings in which all know all as it is, and have spread: each fetches all, and just those that hold it keep it.
func holdKept(t *testing.T, r ring, want map[int][]item) {
	t.Helper()
	for key, list := range want {
		for _, by := range impl.HereOf(r) {
			if got, ok := impl.Fetch(r, by, key); !ok || !slices.Equal(got, list) {
				t.Fatalf("Fetch(%+v, %d, %d) = %v, %v; want %v", r.Peers, by, key, got, ok, list)
			}
		}
		holders := impl.HoldersOf(r, impl.OwnerOf(impl.HereOf(r), key))
		for _, p := range r.Peers {
			kept := slices.ContainsFunc(p.Shelves, func(s shelf) bool { return s.Key == key })
			holds := slices.Contains(holders, p.Id)
			if kept && !holds || holds && !slices.Equal(impl.ShelfOf(p, key), list) {
				t.Fatalf("%d keeps %v of %d, and the holders are %v: %+v", p.Id, impl.ShelfOf(p, key), key, holders, r.Peers)
			}
		}
	}
}

// published has it published, and puts it to what was kept when somebody took it.
func published(t *testing.T, r ring, by int, key int, list []item, all map[int][]item) ring {
	t.Helper()
	next, took := impl.Publish(r, by, key, list)
	want, wantTook := publishPlainly(r, by, key, list)
	if took != wantTook || took == 0 || !sameRing(next, want) || !impl.RingOk(next) {
		t.Fatalf("Publish(%+v, %d, %d, %v) = %+v, %d; want %+v, %d", r.Peers, by, key, list, next.Peers, took, want.Peers, wantTook)
	}
	if got, ok := impl.Fetch(next, by, key); !ok || !slices.Equal(mergedPlainly(got, list), got) {
		t.Fatalf("Fetch(%+v, %d, %d) = %v, %v; %v was published", next.Peers, by, key, got, ok, list)
	}
	all[key] = mergedPlainly(all[key], list)
	return next
}

func TestWhatIsPublishedIsFetchedInNewRings(t *testing.T) {
	for _, all := range []bool{false, true} {
		for size := 4; size <= 8; size++ {
			r := ringOf(size)
			if all {
				hereAll(&r)
			}
			for _, by := range impl.HereOf(r) {
				for key := 0; key < 256; key += 5 {
					next, took := impl.Publish(r, by, key, notes("b", "!a"))
					if took != 3 || !impl.RingOk(next) {
						t.Fatalf("Publish(%+v, %d, %d) = %+v, %d", r.Peers, by, key, next.Peers, took)
					}
					holdKept(t, next, map[int][]item{key: notes("!a", "b")})
				}
			}
		}
	}
}

// gets has one leave, when it may: what it kept is kept on. Otherwise those that are there ask each other first.
func gets(t *testing.T, r ring, id int) ring {
	t.Helper()
	next, ok := impl.Left(r, id)
	if !ok {
		r = mended(t, r)
		next, ok = impl.Left(r, id)
	}
	if want, _ := leftPlainly(r, id); !ok || !sameRing(next, want) || !impl.RingOk(next) || isHere(next, id) || !sameKept(keptIn(next), keptIn(r)) {
		t.Fatalf("Left(%+v, %d) = %+v, %v", r.Peers, id, next.Peers, ok)
	}
	return next
}

// In whatever order some come, publish, take back, spread and leave: nothing is lost, and all is fetched when all know all as it is.
func TestKeptInEveryOrder(t *testing.T) {
	type deed func(r ring, all map[int][]item) ring
	deeds := []deed{
		func(r ring, _ map[int][]item) ring { return come(t, r, 30) },
		func(r ring, _ map[int][]item) ring { return mended(t, come(t, r, 200)) },
		func(r ring, all map[int][]item) ring { return published(t, r, 10, 25, notes("a", "b"), all) },
		func(r ring, all map[int][]item) ring { return published(t, r, 220, 190, notes("c", "!d"), all) },
		func(r ring, all map[int][]item) ring { return published(t, r, 150, 25, notes("!b"), all) },
		func(r ring, _ map[int][]item) ring { return spreadAll(t, r) },
	}
	for turn, order := range orders([]int{0, 1, 2, 3, 4, 5}) {
		r, all := newPlainly([]int{10, 80, 150, 220, 30, 200, 255}), map[int][]item{}
		for _, n := range order {
			r = deeds[n](r, all)
			if !sameKept(keptIn(r), all) {
				t.Fatalf("after %v: %+v; want %v", order, r.Peers, all)
			}
		}
		if turn%2 == 0 {
			r = spreadAll(t, mended(t, r))
			holdKept(t, r, all)
		}
		for _, id := range [][]int{{30, 200}, {200, 30}}[turn/2%2] {
			r = gets(t, r, id)
			if turn%3 == 0 {
				r = spreadAll(t, r)
			}
		}
		r = spreadAll(t, mended(t, r))
		holdKept(t, r, all)
		if !sameKept(keptIn(r), all) {
			t.Fatalf("after %v, and left: %+v; want %v", order, r.Peers, all)
		}
	}
}

// Whatever is drawn, the ring stays right, and what those that are Here keep is lost by none of these.
func TestDrawnKeeping(t *testing.T) {
	d := dice(121)
	did := map[string]int{}
	for turn := range 80 {
		ids := []int{10, 80, 150, 220, 30, 255, 200, 0}[:4+turn%5]
		r := impl.RingNew(ids)
		for range 60 {
			id, by, key, list := ids[d.below(len(ids))], ids[d.below(len(ids))], []int{0, 25, 140, 210, 255}[d.below(5)], thrownItems(&d)
			next, was := r, keptIn(r)
			switch d.below(6) {
			case 0, 1:
				var took int
				if next, took = impl.Publish(r, by, key, list); took > 0 {
					was[key] = mergedPlainly(was[key], list)
					did["took"]++
				}
				holdPublish(t, r, by, key, list, next, took)
			case 2:
				next = impl.Spread(r, id)
				holdSpread(t, r, id, next)
			case 3:
				var ok bool
				id = ids[len(ids)-1-d.below(len(ids)/2)]
				if next, ok = impl.Left(r, id); ok {
					did["left"]++
				}
				holdLeft(t, r, id, next, ok)
			default:
				act := changes[[]int{0, 2, 3}[d.below(3)]]
				next, _ = act.change(r, id, by)
			}
			items, ok := impl.Fetch(next, by, key)
			holdFetch(t, next, by, key, items, ok)
			if !impl.RingOk(next) || !sameKept(keptIn(next), was) || t.Failed() {
				t.Fatalf("from %+v to %+v", r.Peers, next.Peers)
			}
			r = next
		}
		all := keptIn(r)
		holdKept(t, spreadAll(t, mended(t, r)), all)
		did["kept"] += len(all)
	}
	if did["took"] < 400 || did["left"] < 40 || did["kept"] < 100 {
		t.Errorf("done: %v", did)
	}
}

// thrownShelves are mostly right; some keys are there twice, off the ring, or out of order, and so are some items.
func thrownShelves(d *dice) []shelf {
	var list []shelf
	oddly := func() bool { return d.below(9) == 0 }
	for _, key := range []int{0, 3, 20, 45, 61, 99, 110, 255} {
		if d.below(3) > 0 {
			continue
		}
		s := shelf{Key: key, Items: mergedPlainly(thrownItems(d), nil)}
		if oddly() {
			s.Items = thrownItems(d)
		}
		if oddly() {
			s.Key = []int{-1, 256, 300, 99, 3}[d.below(5)]
		}
		list = append(list, s)
	}
	if oddly() {
		slices.Reverse(list)
	}
	return list
}

// Rings that are not right: the same Id more than once, Here and not, Ids and keys off the ring, shelves and items out of order.
func TestKeepingInThrownRings(t *testing.T) {
	d := dice(122)
	did := map[string]int{}
	for i := range 1500 {
		r := thrownRing(&d)
		if i%3 == 0 {
			nameMinusOne(&r)
		}
		for n := range r.Peers {
			if p := &r.Peers[n]; p.Here && d.below(3) > 0 || d.below(40) == 0 {
				p.Shelves = thrownShelves(&d)
			}
		}
		for range 4 {
			id, by := 20*(d.below(11)-1), 20*(d.below(11)-1)
			if i%3 == 0 {
				id, by = max(id, -1), max(by, -1)
			}
			key, list := []int{0, 3, 20, 45, 61, 99, 110, 255, -1, 256, 300}[d.below(11)], thrownItems(&d)
			holdHolders(t, r, id, holdersPlainly(r, id)...)
			after, took := publishPlainly(r, by, key, list)
			holdPublish(t, r, by, key, list, after, took)
			items, found := fetchPlainly(r, by, key)
			holdFetch(t, r, by, key, items, found)
			spread := spreadPlainly(r, id)
			holdSpread(t, r, id, spread)
			went, left := leftPlainly(r, id)
			holdLeft(t, r, id, went, left)
			for _, p := range r.Peers {
				next, ok := putPlainly(p, key, list)
				holdPut(t, p, key, list, next, ok)
				holdShelf(t, p, key, shelfPlainly(p, key))
			}
			if t.Failed() {
				t.FailNow()
			}
			for name, done := range map[string]bool{"took": took > 0, "took some": took == 1 || took == 2, "found": len(items) > 1, "spread": !sameRing(spread, r), "left": left && len(keptIn(r)) > 0} {
				if done {
					did[name]++
				}
			}
		}
	}
	for _, name := range []string{"took", "took some", "found", "spread", "left"} {
		if did[name] < 200 {
			t.Errorf("%s %d times", name, did[name])
		}
	}
}

func TestShelvesOfNoPeers(t *testing.T) {
	for _, r := range []ring{{}, {Peers: []peer{}}, {Peers: []peer{{Id: 10}, {Id: 80}}}, {Peers: []peer{keeping(peer{}, onShelf(0, "x"))}}} {
		for _, id := range []int{-1, 0, 10, 256, 1 << 62, -1 << 63} {
			holdHolders(t, r, id)
			holdPublish(t, r, id, 100, notes("x"), r, 0)
			holdFetch(t, r, id, 0, nil, false)
			holdSpread(t, r, id, r)
			holdLeft(t, r, id, r, false)
		}
	}
}

// keepers are rings in which much is kept, or nothing, right and not.
func keepers(t *testing.T) []ring {
	came := come(t, ringOf(6), 30)
	kept := with(came, 1, keeping(came.Peers[1], rightPeer().Shelves...))
	kept.Peers[4].Shelves, kept.Peers[0].Shelves = manyShelves(5), []shelf{onShelf(90, "b")}
	full := shelved(kept, shelf{Key: 3, Items: manyItems(300)}, 0, 2)
	odd := with(kept, 5, keeping(peer{Id: 40}, onShelf(3, "x")))
	odd.Peers[1].Shelves = append(odd.Peers[1].Shelves, onShelf(3, "b", "a"))
	return []ring{{}, ringOf(4), came, kept, full, odd}
}

func TestRingsAreLeftAsTheyAreKept(t *testing.T) {
	for _, was := range keepers(t) {
		for _, id := range []int{10, 80, 30, 40, 99} {
			for _, key := range []int{3, 90, 100, 300} {
				acts := map[string]func(r ring, list []item) ring{
					"Publish": func(r ring, list []item) ring { next, _ := impl.Publish(r, id, key, list); return next },
					"Spread":  func(r ring, _ []item) ring { return impl.Spread(r, id) },
					"Left":    func(r ring, _ []item) ring { next, _ := impl.Left(r, id); return next },
					"Put": func(r ring, list []item) ring {
						next := ring{}
						for _, p := range r.Peers {
							p, _ = impl.Put(p, key, list)
							next.Peers = append(next.Peers, p)
						}
						return next
					},
				}
				for name, act := range acts {
					r, wasList := ringWithRoom(was), notes("b", "!c", "a")
					list := withRoom(wasList, markItem)
					first, second := act(r, list), act(r, list)
					impl.HoldersOf(r, id)
					impl.Fetch(r, id, key)
					if !ringUntouched(r, was) || !untouched(list, wasList, markItem) {
						t.Fatalf("%s writes into its arguments: %+v", name, r.Peers)
					}
					same := copiedRing(second)
					spoilRing(&first)
					if !ringUntouched(r, was) || !untouched(list, wasList, markItem) {
						t.Fatalf("%s gives room that is another's: %+v", name, r.Peers)
					}
					if !sameRing(second, same) {
						t.Fatalf("two answers of %s share memory: %+v", name, second.Peers)
					}
					spoilRing(&r)
					for i := range list {
						list[i] = item{Text: "spoilt"}
					}
					if !sameRing(second, same) {
						t.Fatalf("%s keeps its arguments: %+v", name, second.Peers)
					}
					listsApart(t, second, name)
				}
			}
		}
	}
}

// shelvesApart spoils shelf by shelf, with the room behind it, and looks whether those of the same one stay.
func shelvesApart(t *testing.T, p peer, why string) {
	t.Helper()
	for i := range p.Shelves {
		was := copiedPeer(p)
		s := p.Shelves[i].Items
		for n := range s {
			s[n] = item{Text: "spoilt"}
		}
		for range 9 {
			s = append(s, item{Text: "spoilt, too"})
		}
		for n := range p.Shelves {
			if n != i && !sameShelf(p.Shelves[n], was.Shelves[n]) {
				t.Fatalf("two shelves share their items: %s", why)
			}
		}
	}
}

func TestShelvesAreNewMemory(t *testing.T) {
	was := rightPeer()
	for _, key := range []int{3, 4, 90, 100, 300} {
		for _, list := range [][]item{nil, notes("b", "a"), notes("y")} {
			p, _ := impl.Put(was, key, list)
			shelvesApart(t, p, "Put")
			r, _ := impl.Publish(with(ringOf(4), 0, rightPeer()), 80, key, list)
			for _, p := range r.Peers {
				shelvesApart(t, p, "Publish")
			}
			for _, p := range impl.Spread(r, 10).Peers {
				shelvesApart(t, p, "Spread")
			}
		}
	}
	p := peerWithRoom(was)
	keepsApart(t, impl.ShelfOf(p, 3), p.Shelves[0].Items, item{Text: "spoilt"}, "ShelfOf and its peer")
	keepsApart(t, impl.ShelfOf(p, 3), impl.ShelfOf(p, 3), item{Text: "spoilt"}, "two answers of ShelfOf")
	if !peerUntouched(p, was) {
		t.Errorf("ShelfOf gives room that is another's: %+v", p)
	}
	a, b := withRoom(notes("b", "a"), markItem), withRoom(notes("c"), markItem)
	for _, c := range []struct{ a, b []item }{{a, b}, {b, a}, {a, nil}, {nil, a}, {b, nil}, {nil, b}, {a, a}} {
		keepsApart(t, impl.Merged(c.a, c.b), c.a, item{Text: "spoilt"}, "Merged and its first list")
		keepsApart(t, impl.Merged(c.a, c.b), c.b, item{Text: "spoilt"}, "Merged and its second list")
		keepsApart(t, impl.Merged(c.a, c.b), impl.Merged(c.a, c.b), item{Text: "spoilt"}, "two answers of Merged")
	}
	if !untouched(a, notes("b", "a"), markItem) || !untouched(b, notes("c"), markItem) {
		t.Errorf("Merged writes into its lists, or gives room that is theirs: %v, %v", a, b)
	}
	r := ringWithRoom(ringOf(4))
	keepsApart(t, impl.HoldersOf(r, 10), r.Peers[0].Behind, -99, "HoldersOf and Behind")
	keepsApart(t, impl.HoldersOf(r, 10), impl.HoldersOf(r, 10), -99, "two answers of HoldersOf")
	if !ringUntouched(r, ringOf(4)) {
		t.Errorf("HoldersOf gives room that is another's: %+v", r.Peers)
	}
	kept := shelved(ringOf(4), onShelf(3, "a", "b"), 0)
	r = ringWithRoom(kept)
	fetched, _ := impl.Fetch(r, 80, 3)
	again, _ := impl.Fetch(r, 80, 3)
	keepsApart(t, fetched, r.Peers[0].Shelves[0].Items, item{Text: "spoilt"}, "Fetch and a shelf")
	keepsApart(t, again, fetched, item{Text: "spoilt, too"}, "two answers of Fetch")
	if !ringUntouched(r, kept) {
		t.Errorf("Fetch gives room that is another's: %+v", r.Peers)
	}
}

// An answer hangs neither on the one before it nor on those that are asked for at the same time.
func TestManyKeepAtOnce(t *testing.T) {
	d := dice(123)
	var rings []ring
	for range 20 {
		r := thrownRing(&d)
		for n := range r.Peers {
			r.Peers[n].Shelves = thrownShelves(&d)
		}
		rings = append(rings, r)
	}
	list := notes("x", "!a")
	var group sync.WaitGroup
	for by := range 8 {
		group.Go(func() {
			for i := range rings {
				r, id := rings[(i+by)%20], 20*(i%8)
				next, took := impl.Publish(r, id, 20*by, list)
				want, wantTook := publishPlainly(r, id, 20*by, list)
				left, ok := impl.Left(r, id)
				wantLeft, wantOk := leftPlainly(r, id)
				if took != wantTook || ok != wantOk || !sameRing(next, want) || !sameRing(left, wantLeft) || !sameRing(impl.Spread(r, id), spreadPlainly(r, id)) {
					t.Errorf("another answer of %+v for %d", r.Peers, id)
				}
			}
		})
	}
	group.Wait()
}

// Many peers, shelves and items are no more than a while's work.
func TestManyThatKeep(t *testing.T) {
	const many = 100000
	peers := make([]peer, many)
	for i := range many {
		peers[i] = knowingOnly(i, (i+1)%many, (i+2)%many)
	}
	r := ring{Peers: peers}
	for _, id := range []int{70, 71, 72} {
		peers[id].Behind = []int{id + 1, id + 2, id + 3}
	}
	peers[60].Shelves = []shelf{onShelf(72, "x")}
	next, took := impl.Publish(r, 60, 70, notes("y"))
	if items, ok := impl.Fetch(next, 50, 70); took != 3 || !ok || !slices.Equal(items, notes("y")) {
		t.Errorf("published to many: %d, %v, %v", took, items, ok)
	}
	next = impl.Spread(r, 60)
	if len(next.Peers[60].Shelves) != 0 || len(next.Peers[72].Shelves) != 1 || len(next.Peers[74].Shelves) != 1 {
		t.Errorf("spread to many: %+v", next.Peers[70:76])
	}
	if next, ok := impl.Left(r, 60); !ok || len(next.Peers[61].Shelves) != 1 {
		t.Errorf("left many: %+v, %v", next.Peers[61], ok)
	}
	down := make([]item, many)
	for i := range down {
		down[i] = item{Text: strings.Repeat("x", i%700) + string(rune('a'+i%26)), Gone: i%5 == 0}
	}
	slices.Reverse(down)
	if got := impl.Merged(down, down[:many/2]); !slices.Equal(got, mergedPlainly(down, nil)) {
		t.Errorf("merged of many: %d", len(got))
	}
	if _, ok := impl.Put(rightPeer(), 5, down); ok {
		t.Error("many items were taken")
	}
	odd := with(ringOf(4), 1, keeping(ringOf(4).Peers[1], manyShelves(600)...))
	holdSpread(t, odd, 80, spreadPlainly(odd, 80))
}
