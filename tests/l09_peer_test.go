package tests

import (
	"math"
	"slices"
	"strings"
	"sync"
	"testing"

	"loop.example/g00474/impl"
)

type (
	item  = impl.Item
	shelf = impl.Shelf
	peer  = impl.Peer
	ring  = impl.Ring
)

func sameShelf(a shelf, b shelf) bool { return a.Key == b.Key && slices.Equal(a.Items, b.Items) }

func samePeer(a peer, b peer) bool {
	return a.Id == b.Id && a.Here == b.Here && a.Ahead == b.Ahead &&
		slices.Equal(a.Behind, b.Behind) && slices.Equal(a.Fingers, b.Fingers) && slices.EqualFunc(a.Shelves, b.Shelves, sameShelf)
}

func sameRing(a ring, b ring) bool { return slices.EqualFunc(a.Peers, b.Peers, samePeer) }

func copiedPeer(p peer) peer {
	p.Behind, p.Fingers, p.Shelves = slices.Clone(p.Behind), slices.Clone(p.Fingers), slices.Clone(p.Shelves)
	for i := range p.Shelves {
		p.Shelves[i].Items = slices.Clone(p.Shelves[i].Items)
	}
	return p
}

func copiedRing(r ring) ring {
	r.Peers = slices.Clone(r.Peers)
	for i := range r.Peers {
		r.Peers[i] = copiedPeer(r.Peers[i])
	}
	return r
}

// What stands in the spare room behind the lists of a ring.
var (
	markItem  = item{Text: "behind", Gone: true}
	markShelf = shelf{Key: -77, Items: []item{markItem}}
	markPeer  = peer{Id: 77, Here: true, Ahead: 78, Behind: []int{79}}
)

func peerWithRoom(p peer) peer {
	p.Behind, p.Fingers, p.Shelves = withRoom(p.Behind, -77), withRoom(p.Fingers, -77), withRoom(p.Shelves, markShelf)
	for i := range p.Shelves {
		p.Shelves[i].Items = withRoom(p.Shelves[i].Items, markItem)
	}
	return p
}

func ringWithRoom(r ring) ring {
	long := withRoom(r.Peers, markPeer)
	for i := range long {
		long[i] = peerWithRoom(long[i])
	}
	return ring{Peers: long}
}

func peerUntouched(p peer, was peer) bool {
	if !samePeer(p, was) || !untouched(p.Behind, was.Behind, -77) || !untouched(p.Fingers, was.Fingers, -77) {
		return false
	}
	for i, s := range p.Shelves {
		if !untouched(s.Items, was.Shelves[i].Items, markItem) {
			return false
		}
	}
	for _, s := range p.Shelves[len(p.Shelves) : len(p.Shelves)+300] {
		if !sameShelf(s, markShelf) {
			return false
		}
	}
	return true
}

func ringUntouched(r ring, was ring) bool {
	if len(r.Peers) != len(was.Peers) {
		return false
	}
	for i, p := range r.Peers {
		if !peerUntouched(p, was.Peers[i]) {
			return false
		}
	}
	for _, p := range r.Peers[len(r.Peers) : len(r.Peers)+300] {
		if !samePeer(p, markPeer) {
			return false
		}
	}
	return true
}

// spoilPeer writes into each list of a peer, and behind it, where another's could stand.
func spoilPeer(p *peer) {
	for _, list := range []*[]int{&p.Behind, &p.Fingers} {
		for i := range *list {
			(*list)[i] = -99
		}
		for range 9 {
			*list = append(*list, -98)
		}
	}
	for i := range p.Shelves {
		for n := range p.Shelves[i].Items {
			p.Shelves[i].Items[n] = item{Text: "spoilt"}
		}
		for range 9 {
			p.Shelves[i].Items = append(p.Shelves[i].Items, item{Text: "spoilt, too"})
		}
		p.Shelves[i].Key = -99
	}
	for range 9 {
		p.Shelves = append(p.Shelves, shelf{Key: -98})
	}
}

func spoilRing(r *ring) {
	for i := range r.Peers {
		spoilPeer(&r.Peers[i])
		r.Peers[i].Id, r.Peers[i].Ahead = -99, -99
	}
	for range 9 {
		r.Peers = append(r.Peers, peer{Id: -98})
	}
}

// listsApart spoils each peer of the answer, and each list of it, and looks whether all the others stay.
func listsApart(t *testing.T, r ring, why string) {
	t.Helper()
	was := copiedRing(r)
	for i := range r.Peers {
		spoilPeer(&r.Peers[i])
		for n := i + 1; n < len(r.Peers); n++ {
			if !samePeer(r.Peers[n], was.Peers[n]) {
				t.Fatalf("the peers %d and %d share a list: %s", i, n, why)
			}
		}
	}
	for _, p := range was.Peers {
		alone := copiedPeer(p)
		for i := range p.Behind {
			p.Behind[i] = -99
		}
		p.Behind = append(p.Behind, -98, -98, -98, -98, -98, -98, -98, -98)
		if !slices.Equal(p.Fingers, alone.Fingers) {
			t.Fatalf("Behind and Fingers share memory: %s", why)
		}
	}
}

// rightPeer is Here, right, and has something of all that one may have; others hold just what the edges let them.
func rightPeer() peer {
	return peer{Id: 10, Here: true, Ahead: 220, Behind: []int{80, 150, 220}, Fingers: []int{80, 80, 80, 80, 80, 80, -1, 150}, Shelves: []shelf{
		{Key: 3, Items: []item{{Text: ""}, {Text: "a"}, {Text: "a\x00", Gone: true}, {Text: "b"}}}, {Key: 4}, {Key: 90, Items: []item{{Text: "a", Gone: true}}},
	}}
}

func manyShelves(count int) []shelf {
	var list []shelf
	for i := range count {
		list = append(list, shelf{Key: 3 * i, Items: []item{{Text: "x"}}})
	}
	return list
}

func manyItems(count int) []item {
	var list []item
	for i := range count {
		list = append(list, item{Text: string([]byte{'i', byte(i / 256), byte(i)}), Gone: i%2 == 1})
	}
	return list
}

func peerRight(p peer) bool {
	if !within(p.Id, 0, 255) {
		return false
	}
	if !p.Here {
		return samePeer(p, peer{Id: p.Id})
	}
	if !within(p.Ahead, -1, 255) || len(p.Behind) > 3 || slices.Contains(p.Behind, p.Id) || len(p.Fingers) != 8 || len(p.Shelves) > 80 {
		return false
	}
	for _, id := range p.Behind {
		if !within(id, 0, 255) {
			return false
		}
	}
	for _, f := range p.Fingers {
		if !within(f, -1, 255) {
			return false
		}
	}
	last := -1
	for _, s := range p.Shelves {
		if s.Key <= last || s.Key > 255 || len(s.Items) > 300 {
			return false
		}
		last = s.Key
		for i, it := range s.Items {
			if len(it.Text) > 600 || i > 0 && strings.Compare(s.Items[i-1].Text, it.Text) >= 0 {
				return false
			}
		}
	}
	return true
}

// isHere asks for it one by one, as the document says who is there.
func isHere(r ring, id int) bool {
	return slices.ContainsFunc(r.Peers, func(p peer) bool { return p.Here && p.Id == id })
}

func ringRight(r ring) bool {
	if len(r.Peers) < 4 || len(r.Peers) > 8 {
		return false
	}
	for i, p := range r.Peers {
		if !peerRight(p) || i < 4 && !p.Here {
			return false
		}
		for _, other := range r.Peers[:i] {
			if other.Id == p.Id {
				return false
			}
		}
		if p.Here && !slices.ContainsFunc(p.Behind, func(id int) bool { return isHere(r, id) }) {
			return false
		}
	}
	return true
}

func herePlainly(r ring) []int {
	var list []int
	for id := -600; id <= 600; id++ {
		if isHere(r, id) {
			list = append(list, id)
		}
	}
	return list
}

// knowingPlainly goes round from id on, one by one.
func knowingPlainly(here []int, id int) peer {
	p := peer{Id: id, Here: true}
	for way := 1; way < 256; way++ {
		other := (id + way) % 256
		if slices.Contains(here, other) {
			p.Ahead = other
			if len(p.Behind) < 3 {
				p.Behind = append(p.Behind, other)
			}
		}
	}
	for _, far := range []int{1, 2, 4, 8, 16, 32, 64, 128} {
		at := (id + far) % 256
		for !slices.Contains(here, at) {
			at = (at + 1) % 256
		}
		p.Fingers = append(p.Fingers, at)
	}
	return p
}

func newPlainly(ids []int) ring {
	var kept []int
	for _, id := range ids {
		if within(id, 0, 255) && !slices.Contains(kept, id) && len(kept) < 8 {
			kept = append(kept, id)
		}
	}
	var r ring
	if len(kept) < 4 {
		return r
	}
	for i, id := range kept {
		if i < 4 {
			r.Peers = append(r.Peers, knowingPlainly(kept[:4], id))
		} else {
			r.Peers = append(r.Peers, peer{Id: id})
		}
	}
	return r
}

// thrownRing is of a few Ids, so that some are there twice, and some know whom there is not; of every second one hardly any.
func thrownRing(d *dice) ring {
	var r ring
	seldom := []int{3, 60}[d.below(2)]
	oddly := func() bool { return d.below(seldom) == 0 }
	size := 4 + d.below(5)
	if oddly() {
		size = d.below(12)
	}
	some := func() int { return 20 * (d.below(size+3) - 1) }
	for i := range size {
		p := peer{Id: 20 * i}
		if oddly() {
			p.Id = some()
		}
		p.Here = i < 4 || d.below(2) == 0
		if p.Here || oddly() {
			p.Ahead = some()
			for n := range 2 + d.below(2) {
				p.Behind = append(p.Behind, 20*((i+1+n)%4))
			}
			p.Fingers = slices.Repeat([]int{max(some(), -1)}, 8)
			p.Shelves = manyShelves(d.below(3))
		}
		if oddly() {
			p.Behind = append(p.Behind, some())
		}
		if p.Ahead < 0 && !oddly() {
			p.Ahead = -1
		}
		for n := range p.Behind {
			if p.Behind[n] == p.Id || oddly() {
				p.Behind[n] = some()
			}
		}
		p.Here = p.Here != (d.below(3*seldom) == 0)
		r.Peers = append(r.Peers, p)
	}
	return r
}

func TestSizesOfPeers(t *testing.T) {
	if impl.MaxPeers != 8 || impl.Base != 4 || impl.ListSize != 3 || impl.Fingers != 8 {
		t.Errorf("%d, %d, %d, %d", impl.MaxPeers, impl.Base, impl.ListSize, impl.Fingers)
	}
}

// newRings have their Ids in no order, next to each other round the end, and at its ends.
func newRings() []struct {
	ids  []int
	want ring
} {
	here := func(id int, ahead int, behind []int, fingers ...int) peer {
		return peer{Id: id, Here: true, Ahead: ahead, Behind: behind, Fingers: fingers}
	}
	four := []peer{
		here(10, 220, []int{80, 150, 220}, 80, 80, 80, 80, 80, 80, 80, 150),
		here(80, 10, []int{150, 220, 10}, 150, 150, 150, 150, 150, 150, 150, 220),
		here(150, 80, []int{220, 10, 80}, 220, 220, 220, 220, 220, 220, 220, 80),
		here(220, 150, []int{10, 80, 150}, 10, 10, 10, 10, 10, 10, 80, 150),
	}
	apart := []peer{
		here(200, 77, []int{255, 5, 77}, 255, 255, 255, 255, 255, 255, 77, 77),
		here(5, 255, []int{77, 200, 255}, 77, 77, 77, 77, 77, 77, 77, 200),
		here(77, 5, []int{200, 255, 5}, 200, 200, 200, 200, 200, 200, 200, 255),
		here(255, 200, []int{5, 77, 200}, 5, 5, 5, 77, 77, 77, 77, 200),
	}
	near := []peer{
		here(0, 255, []int{1, 254, 255}, 1, 254, 254, 254, 254, 254, 254, 254),
		here(255, 254, []int{0, 1, 254}, 0, 1, 254, 254, 254, 254, 254, 254),
		here(1, 0, []int{254, 255, 0}, 254, 254, 254, 254, 254, 254, 254, 254),
		here(254, 1, []int{255, 0, 1}, 255, 0, 254, 254, 254, 254, 254, 254),
	}
	not := func(ids ...int) []peer {
		var list []peer
		for _, id := range ids {
			list = append(list, peer{Id: id})
		}
		return list
	}
	eight := ring{Peers: slices.Concat(apart, not(128, 0, 30, 99))}
	return []struct {
		ids  []int
		want ring
	}{
		{[]int{10, 80, 150, 220}, ring{Peers: four}},
		{[]int{10, 80, 150, 220, 30}, ring{Peers: slices.Concat(four, not(30))}},
		{[]int{200, 5, 77, 255}, ring{Peers: apart}},
		{[]int{200, 5, 77, 255, 128, 0, 30, 99}, eight},
		{[]int{0, 255, 1, 254}, ring{Peers: near}},
		{[]int{0, 255, 1, 254, 2, 253}, ring{Peers: slices.Concat(near, not(2, 253))}},
		// More than there may be: the first ones.
		{[]int{200, 5, 77, 255, 128, 0, 30, 99, 100}, eight},
		{[]int{200, 5, 77, 255, 128, 0, 30, 99, 100, 101, 102, 103, 104, 105, 106, 107, 108}, eight},
		// Ids that are there twice: each once, where it stands first.
		{[]int{10, 10, 80, 10, 80, 150, 10, 220}, ring{Peers: four}},
		{[]int{10, 10, 10, 10, 80, 150, 220}, ring{Peers: four}},
		{[]int{10, 80, 150, 10, 80, 150, 220, 220}, ring{Peers: four}},
		{[]int{10, 80, 150, 220, 10, 30, 220, 30, 80}, ring{Peers: slices.Concat(four, not(30))}},
		{[]int{200, 5, 200, 77, 255, 128, 0, 5, 30, 255, 99, 99}, eight},
		{[]int{200, 200, 5, 5, 77, 77, 255, 255, 128, 128, 0, 0, 30, 30, 99, 99, 100, 100}, eight},
		{[]int{200, 5, 77, 255, 128, 0, 30, 200, 200, 5, 99, 100}, eight},
		// Ids that are not of the ring stand there as though they did not.
		{[]int{-1, 10, 256, 80, 300, 150, -256, 220, 512}, ring{Peers: four}},
		{[]int{266, 10, 336, 80, 150, 220, 1000, 30, -30}, ring{Peers: slices.Concat(four, not(30))}},
		{[]int{math.MinInt, 0, 256, 255, math.MaxInt, 1, -1, -2, 254, 1 << 32, 1<<32 + 9}, ring{Peers: near}},
		{[]int{200, -5, 5, 77, 256, 256, 255, 128, -1, -1, 0, 30, 257, 99, 100}, eight},
		// Less than Base.
		{nil, ring{}}, {[]int{}, ring{}}, {[]int{10}, ring{}}, {[]int{10, 80, 150}, ring{}}, {[]int{10, 80, 150, 10}, ring{}}, {[]int{10, 80, 150, 150, 80, 10, 80, 150}, ring{}},
		{[]int{10, 80, 150, 256}, ring{}}, {[]int{10, 80, 150, -1, -2, 256, 257, 1000}, ring{}}, {[]int{-1, -2, -3, -4, -5}, ring{}}, {[]int{256, 257, 258, 259}, ring{}}, {[]int{0, 0, 0, 0, 0}, ring{}},
	}
}

func TestNewRingsByHand(t *testing.T) {
	for _, c := range newRings() {
		if got := impl.RingNew(c.ids); !sameRing(got, c.want) {
			t.Errorf("RingNew(%v) = %+v; want %+v", c.ids, got, c.want)
		}
		if !sameRing(newPlainly(c.ids), c.want) {
			t.Errorf("plainly: %v: %+v", c.ids, newPlainly(c.ids))
		}
	}
}

func TestNewRingsAreRight(t *testing.T) {
	for _, c := range newRings() {
		r := impl.RingNew(c.ids)
		if impl.RingOk(r) != (len(c.want.Peers) > 0) {
			t.Errorf("RingOk(RingNew(%v)) = %v", c.ids, impl.RingOk(r))
		}
		for i, p := range r.Peers {
			if !impl.PeerOk(p) {
				t.Errorf("not right: %+v", p)
			}
			if at := impl.PeerAt(r, p.Id); i < 4 && at != i || i >= 4 && at != -1 {
				t.Errorf("PeerAt(RingNew(%v), %d) = %d", c.ids, p.Id, at)
			}
		}
	}
}

// Whoever goes from one to the next comes by all that are Here, and back.
func TestNextOnesGoRoundNewRings(t *testing.T) {
	for _, c := range newRings() {
		if len(c.want.Peers) == 0 {
			continue
		}
		r := impl.RingNew(c.ids)
		start := r.Peers[0].Id
		met := []int{start}
		for id := impl.NextOf(r, start); id != start && len(met) < 9; id = impl.NextOf(r, id) {
			met = append(met, id)
		}
		slices.Sort(met)
		if !slices.Equal(met, impl.HereOf(r)) || len(met) != 4 {
			t.Errorf("round RingNew(%v): %v", c.ids, met)
		}
		for i, p := range r.Peers {
			want := -1
			if i < 4 {
				want = p.Behind[0]
			}
			if got := impl.NextOf(r, p.Id); got != want {
				t.Errorf("NextOf(RingNew(%v), %d) = %d; want %d", c.ids, p.Id, got, want)
			}
		}
	}
}

func TestNewRingsOfThrownIds(t *testing.T) {
	d := dice(91)
	for i := range 2000 {
		ids := thrownIds(&d, i%20)
		got := impl.RingNew(ids)
		if want := newPlainly(ids); !sameRing(got, want) {
			t.Fatalf("RingNew(%v) = %+v; want %+v", ids, got, want)
		}
		if len(got.Peers) == 0 {
			continue
		}
		if !impl.RingOk(got) {
			t.Fatalf("RingNew(%v) is not right", ids)
		}
		holdNew(t, got)
	}
}

// holdNew asks by the words of the ring of numbers alone.
func holdNew(t *testing.T, r ring) {
	t.Helper()
	here := impl.HereOf(r)
	for _, p := range r.Peers[:4] {
		ordered := impl.OrderedFrom(here, p.Id)
		if !slices.Equal(p.Behind, ordered) || p.Ahead != ordered[2] || impl.NextOf(r, p.Id) != ordered[0] {
			t.Fatalf("of %v: %+v", here, p)
		}
		for i, f := range p.Fingers {
			if f != impl.OwnerOf(here, p.Id+1<<i) {
				t.Fatalf("the finger %d of %+v; of %v", i, p, here)
			}
		}
		if next := r.Peers[impl.PeerAt(r, p.Behind[0])]; next.Ahead != p.Id {
			t.Fatalf("%+v is behind %+v", next, p)
		}
	}
}

func TestWhoIsHereByHand(t *testing.T) {
	here := func(id int) peer { return peer{Id: id, Here: true} }
	for _, c := range []struct {
		r    ring
		want []int
		at   map[int]int
	}{
		{ring{}, nil, map[int]int{0: -1, -1: -1, 10: -1}},
		{ring{Peers: []peer{}}, nil, map[int]int{0: -1, -1: -1}},
		{ring{Peers: []peer{{}}}, nil, map[int]int{0: -1, -1: -1}},
		{ring{Peers: []peer{here(0)}}, []int{0}, map[int]int{0: 0, -1: -1, 256: -1, 1: -1}},
		{ring{Peers: []peer{here(220), here(10), {Id: 30}, here(0), here(255), {Id: 80}}}, []int{0, 10, 220, 255}, map[int]int{220: 0, 10: 1, 30: -1, 0: 3, 255: 4, 80: -1, 476: -1, -1: -1}},
		// An Id that is there twice is told once, by the first place that is Here.
		{ring{Peers: []peer{here(10), here(80), here(10), here(80), here(5)}}, []int{5, 10, 80}, map[int]int{10: 0, 80: 1, 5: 4}},
		{ring{Peers: []peer{{Id: 10}, here(10), here(10)}}, []int{10}, map[int]int{10: 1}},
		{ring{Peers: []peer{here(10), {Id: 10}}}, []int{10}, map[int]int{10: 0}},
		{ring{Peers: []peer{{Id: 10}, {Id: 10}, {Id: 10}}}, nil, map[int]int{10: -1}},
		{ring{Peers: []peer{{Id: 10}, {Id: 10}, here(10)}}, []int{10}, map[int]int{10: 2}},
		{ring{Peers: []peer{{Id: 10}, here(10), {Id: 10}}}, []int{10}, map[int]int{10: 1}},
		{ring{Peers: []peer{here(7), {Id: 10}, here(10), {Id: 7}}}, []int{7, 10}, map[int]int{7: 0, 10: 2}},
		// Ids that are not of the ring are told as they are.
		{ring{Peers: []peer{here(300), here(-1), here(44), {Id: -2}}}, []int{-1, 44, 300}, map[int]int{300: 0, -1: 1, 44: 2, -2: -1, 255: -1}},
		{ring{Peers: []peer{here(math.MaxInt), here(math.MinInt)}}, []int{math.MinInt, math.MaxInt}, map[int]int{math.MaxInt: 0, math.MinInt: 1, 0: -1, 255: -1}},
		// Whoever has all else, but is not Here.
		{ring{Peers: []peer{{Id: 10, Ahead: 10, Behind: []int{80}, Fingers: []int{10}}, here(80)}}, []int{80}, map[int]int{10: -1, 80: 1}},
	} {
		if got := impl.HereOf(c.r); !slices.Equal(got, c.want) {
			t.Errorf("HereOf(%+v) = %v; want %v", c.r, got, c.want)
		}
		for id, want := range c.at {
			if got := impl.PeerAt(c.r, id); got != want {
				t.Errorf("PeerAt(%+v, %d) = %d; want %d", c.r, id, got, want)
			}
		}
	}
}

func TestNextOnesByHand(t *testing.T) {
	r := ring{Peers: []peer{
		{Id: 10, Here: true, Behind: []int{30, 80, 150}},
		{Id: 30},
		{Id: 80, Here: true, Behind: []int{150, 10, 30}},
		{Id: 150, Here: true, Behind: []int{30, 90, 31}},
		{Id: 220, Here: true, Behind: []int{90, 30, 10}},
		{Id: 240, Here: true},
		{Id: 250, Here: true, Behind: []int{-1, 266, 30, 90, 80, 10}},
		{Id: 90, Behind: nil},
		{Id: 5, Here: true, Behind: []int{5, 10}},
	}}
	for id, want := range map[int]int{
		10: 80, 80: 150, 150: -1, 220: 10, 240: -1, 250: 80, 5: 5,
		// Not Here, or nobody's.
		30: -1, 90: -1, 11: -1, 0: -1, -1: -1, 266: -1, -246: -1, math.MaxInt: -1, math.MinInt: -1,
	} {
		if got := impl.NextOf(r, id); got != want {
			t.Errorf("NextOf(%d) = %d; want %d", id, got, want)
		}
	}
	for _, none := range []ring{{}, {Peers: []peer{}}, {Peers: []peer{{Id: 10, Here: true, Behind: []int{}}}}, {Peers: []peer{{Id: 10}}}} {
		for _, id := range []int{10, 0, -1} {
			if got := impl.NextOf(none, id); got != -1 {
				t.Errorf("NextOf(%+v, %d) = %d", none, id, got)
			}
		}
	}
}

// Of those with the same Id it is the first one that is Here who is asked, and one that is Here is enough.
func TestNextOnesOfIdsThatAreThereTwice(t *testing.T) {
	one, two := peer{Id: 80, Here: true}, peer{Id: 90, Here: true}
	for _, c := range []struct {
		peers []peer
		want  int
	}{
		{[]peer{{Id: 10, Here: true, Behind: []int{80}}, {Id: 10, Here: true, Behind: []int{90}}, one, two}, 80},
		{[]peer{{Id: 10, Here: true, Behind: []int{90}}, {Id: 10, Here: true, Behind: []int{80}}, one, two}, 90},
		{[]peer{{Id: 10, Here: true}, {Id: 10, Here: true, Behind: []int{80}}, one, two}, -1},
		{[]peer{{Id: 10}, {Id: 10, Here: true, Behind: []int{80}}, one, two}, 80},
		{[]peer{{Id: 10, Here: true, Behind: []int{80}}, {Id: 10}, one, two}, 80},
		{[]peer{{Id: 10, Here: true, Behind: []int{80, 90}}, {Id: 80}, one, two}, 80},
		{[]peer{{Id: 10, Here: true, Behind: []int{80, 90}}, one, {Id: 80}, two}, 80},
		{[]peer{{Id: 10, Here: true, Behind: []int{80, 90}}, {Id: 80}, {Id: 80}, two}, 90},
	} {
		if got := impl.NextOf(ring{Peers: c.peers}, 10); got != c.want {
			t.Errorf("NextOf(%+v, 10) = %d; want %d", c.peers, got, c.want)
		}
	}
}

func TestPeersThatAreRight(t *testing.T) {
	for why, change := range map[string]func(p *peer){
		"as it is":             func(p *peer) {},
		"the least Id":         func(p *peer) { p.Id = 0 },
		"the greatest Id":      func(p *peer) { p.Id = 255 },
		"Ahead not known":      func(p *peer) { p.Ahead = -1 },
		"the least Ahead":      func(p *peer) { p.Ahead = 0 },
		"the greatest Ahead":   func(p *peer) { p.Ahead = 255 },
		"Ahead it":             func(p *peer) { p.Ahead = p.Id },
		"nobody behind":        func(p *peer) { p.Behind = nil },
		"an empty Behind":      func(p *peer) { p.Behind = []int{} },
		"one behind":           func(p *peer) { p.Behind = []int{0} },
		"two behind":           func(p *peer) { p.Behind = []int{0, 255} },
		"two alike behind":     func(p *peer) { p.Behind = []int{80, 80, 80} },
		"behind out of order":  func(p *peer) { p.Behind = []int{220, 80, 150} },
		"both ends behind":     func(p *peer) { p.Behind = []int{255, 0, 1} },
		"no finger known":      func(p *peer) { p.Fingers = slices.Repeat([]int{-1}, 8) },
		"the least fingers":    func(p *peer) { p.Fingers = make([]int, 8) },
		"the greatest fingers": func(p *peer) { p.Fingers = slices.Repeat([]int{255}, 8) },
		"fingers that are it":  func(p *peer) { p.Fingers = slices.Repeat([]int{p.Id}, 8) },
		"no shelves":           func(p *peer) { p.Shelves = nil },
		"empty shelves":        func(p *peer) { p.Shelves = []shelf{} },
		"the least Key":        func(p *peer) { p.Shelves = []shelf{{Key: 0}} },
		"the greatest Key":     func(p *peer) { p.Shelves = []shelf{{Key: 0}, {Key: 1}, {Key: 254}, {Key: 255, Items: []item{}}} },
		"80 shelves":           func(p *peer) { p.Shelves = manyShelves(80) },
		"300 items":            func(p *peer) { p.Shelves[2].Items = manyItems(300) },
		"300 items of each": func(p *peer) {
			p.Shelves = []shelf{{Key: 1, Items: manyItems(300)}, {Key: 2, Items: manyItems(300)}, {Key: 3, Items: manyItems(299)}}
		},
		"600 bytes":           func(p *peer) { p.Shelves[0].Items[3].Text = strings.Repeat("\xff", 600) },
		"items that go":       func(p *peer) { p.Shelves[0].Items[0].Gone = true },
		"a beginning is less": func(p *peer) { p.Shelves[0].Items = []item{{Text: "a"}, {Text: "aa"}, {Text: "ab"}, {Text: "b"}} },
		"bytes that are no letters": func(p *peer) {
			p.Shelves[0].Items = []item{{Text: "\x7f"}, {Text: "\x80"}, {Text: "\xc3\xa9"}, {Text: "\xff\xfe"}}
		},
	} {
		p := rightPeer()
		change(&p)
		if !impl.PeerOk(p) || !peerRight(p) {
			t.Errorf("not right: %s: %+v", why, p)
		}
	}
}

func TestPeersThatAreNotRight(t *testing.T) {
	for why, change := range map[string]func(p *peer){
		"an Id below 0":              func(p *peer) { p.Id = -1 },
		"an Id past the ring":        func(p *peer) { p.Id = 256 },
		"an Id that goes round":      func(p *peer) { p.Id = 266 },
		"Ahead -2":                   func(p *peer) { p.Ahead = -2 },
		"Ahead 256":                  func(p *peer) { p.Ahead = 256 },
		"one behind too many":        func(p *peer) { p.Behind = []int{80, 150, 220, 30} },
		"one behind alike too many":  func(p *peer) { p.Behind = []int{80, 80, 80, 80} },
		"it behind, first":           func(p *peer) { p.Behind = []int{10, 80, 150} },
		"it behind, last":            func(p *peer) { p.Behind = []int{80, 150, 10} },
		"it behind alone":            func(p *peer) { p.Behind = []int{10} },
		"nobody known behind":        func(p *peer) { p.Behind = []int{-1} },
		"the last behind not known":  func(p *peer) { p.Behind = []int{80, 150, -1} },
		"one behind past the ring":   func(p *peer) { p.Behind = []int{80, 256, 150} },
		"it behind, once round":      func(p *peer) { p.Behind = []int{266} },
		"all behind off the ring":    func(p *peer) { p.Behind = []int{-1, 256, 266} },
		"no fingers":                 func(p *peer) { p.Fingers = nil },
		"one finger too few":         func(p *peer) { p.Fingers = p.Fingers[:7] },
		"one finger too many":        func(p *peer) { p.Fingers = append(p.Fingers, 80) },
		"one not known too many":     func(p *peer) { p.Fingers = append(p.Fingers, -1) },
		"81 shelves":                 func(p *peer) { p.Shelves = manyShelves(81) },
		"a Key below 0":              func(p *peer) { p.Shelves = []shelf{{Key: -1}} },
		"a Key below 0 first":        func(p *peer) { p.Shelves[0].Key = -1 },
		"a Key past the ring":        func(p *peer) { p.Shelves[2].Key = 256 },
		"two Keys alike":             func(p *peer) { p.Shelves[1].Key = 3 },
		"two Keys alike at the end":  func(p *peer) { p.Shelves[1].Key = 90 },
		"Keys out of order":          func(p *peer) { p.Shelves[0].Key, p.Shelves[1].Key = 4, 3 },
		"Keys out of order, at last": func(p *peer) { p.Shelves[1].Key, p.Shelves[2].Key = 90, 4 },
		"301 items":                  func(p *peer) { p.Shelves[2].Items = manyItems(301) },
		"301 items of the first":     func(p *peer) { p.Shelves[0].Items = manyItems(301) },
		"601 bytes":                  func(p *peer) { p.Shelves[0].Items[3].Text = strings.Repeat("\xff", 601) },
		"601 bytes alone":            func(p *peer) { p.Shelves[2].Items[0].Text = strings.Repeat("a", 601) },
		"601 bytes first":            func(p *peer) { p.Shelves[0].Items = []item{{Text: strings.Repeat("a", 601)}, {Text: "b"}} },
		"two Items alike":            func(p *peer) { p.Shelves[0].Items[2].Text = "a" },
		"two Items alike but Gone":   func(p *peer) { p.Shelves[2].Items = []item{{Text: "a"}, {Text: "a", Gone: true}} },
		"two empty Items":            func(p *peer) { p.Shelves[2].Items = make([]item, 2) },
		"Items out of order":         func(p *peer) { p.Shelves[2].Items = []item{{Text: "b"}, {Text: "a"}} },
		"a beginning behind":         func(p *peer) { p.Shelves[2].Items = []item{{Text: "aa"}, {Text: "a"}} },
		"Items out of order at last": func(p *peer) { p.Shelves[0].Items[3].Text = "a" },
		"not Here":                   func(p *peer) { p.Here = false },
	} {
		p := rightPeer()
		change(&p)
		if impl.PeerOk(p) || peerRight(p) {
			t.Errorf("right: %s: %+v", why, p)
		}
	}
}

func TestNumbersOfPeers(t *testing.T) {
	for _, n := range append([]int{-3, -2, -1, 0, 1, 10, 254, 255, 256, 257}, farNumbers...) {
		p := rightPeer()
		p.Ahead = n
		if impl.PeerOk(p) != within(n, -1, 255) {
			t.Errorf("Ahead %d", n)
		}
		for i := range 8 {
			p = rightPeer()
			p.Fingers[i] = n
			if impl.PeerOk(p) != within(n, -1, 255) {
				t.Errorf("the finger %d is %d", i, n)
			}
		}
		holdBehind(t, n)
		p = rightPeer()
		p.Shelves = []shelf{{Key: n}}
		if impl.PeerOk(p) != within(n, 0, 255) {
			t.Errorf("Key %d", n)
		}
		for _, here := range []bool{false, true} {
			p = peer{Id: n}
			if here {
				p = rightPeer()
				p.Id = n
			}
			if impl.PeerOk(p) != within(n, 0, 255) {
				t.Errorf("Id %d", n)
			}
		}
	}
	for count := range 20 {
		p := rightPeer()
		p.Behind = make([]int, count)
		if impl.PeerOk(p) != (count <= 3) {
			t.Errorf("%d behind", count)
		}
		p = rightPeer()
		p.Fingers = make([]int, count)
		if impl.PeerOk(p) != (count == 8) {
			t.Errorf("%d fingers", count)
		}
	}
}

// holdBehind puts n at each place behind one peer, in lists of each length.
func holdBehind(t *testing.T, n int) {
	t.Helper()
	for count := 1; count <= 3; count++ {
		for i := range count {
			p := rightPeer()
			p.Behind = p.Behind[:count]
			p.Behind[i] = n
			if impl.PeerOk(p) != (within(n, 0, 255) && n != p.Id) {
				t.Errorf("%v are behind %d", p.Behind, p.Id)
			}
		}
	}
}

// One that is not Here has its Id, and not one thing more.
func TestPeersThatAreNotHere(t *testing.T) {
	for _, id := range []int{0, 1, 10, 254, 255} {
		for _, p := range []peer{{Id: id}, {Id: id, Behind: []int{}, Fingers: []int{}, Shelves: []shelf{}}, {Id: id, Behind: make([]int, 0, 9)}} {
			if !impl.PeerOk(p) {
				t.Errorf("not right: %+v", p)
			}
		}
		for _, p := range []peer{
			{Id: id, Ahead: -1}, {Id: id, Ahead: 1}, {Id: id, Ahead: 255}, {Id: id, Ahead: id + 1},
			{Id: id, Behind: []int{0}}, {Id: id, Behind: []int{80}}, {Id: id, Behind: []int{-1}},
			{Id: id, Fingers: []int{0}}, {Id: id, Fingers: make([]int, 8)}, {Id: id, Fingers: slices.Repeat([]int{-1}, 8)},
			{Id: id, Shelves: []shelf{{}}}, {Id: id, Shelves: []shelf{{Key: 3, Items: []item{{Text: "a"}}}}},
			{Id: id, Here: true},
		} {
			if impl.PeerOk(p) {
				t.Errorf("right: %+v", p)
			}
		}
	}
	if impl.PeerOk(peer{Id: -1}) || impl.PeerOk(peer{Id: 256}) {
		t.Error("right off the ring")
	}
}

func TestThrownPeers(t *testing.T) {
	d := dice(92)
	rights := 0
	for range 4000 {
		p := thrownPeer(&d)
		if impl.PeerOk(p) != peerRight(p) {
			t.Fatalf("PeerOk(%+v) = %v", p, !peerRight(p))
		}
		if peerRight(p) {
			rights++
		}
	}
	if rights < 400 || rights > 3600 {
		t.Errorf("%d were right", rights)
	}
}

// thrownPeer is right but for some few things.
func thrownPeer(d *dice) peer {
	p := rightPeer()
	edge := []int{-2, -1, 0, 1, 3, 4, 10, 89, 90, 91, 254, 255, 256}
	for range d.below(3) {
		n := edge[d.below(len(edge))]
		switch d.below(8) {
		case 0:
			p.Id = n
		case 1:
			p.Ahead = n
		case 2:
			p.Behind = append(p.Behind[:d.below(3)], n)
		case 3:
			p.Fingers[d.below(8)] = n
		case 4:
			p.Shelves[d.below(3)].Key = n
		case 5:
			p.Shelves[0].Items[d.below(4)].Text = strings.Repeat("a", max(n, 0))
		case 6:
			p.Shelves[2].Items = manyItems(295 + d.below(10))
		case 7:
			p.Shelves[1].Items = []item{{Text: strings.Repeat("b", 595+d.below(10))}}
		}
	}
	return p
}

// ringOf is a new one that is right, of so many.
func ringOf(size int) ring {
	return newPlainly([]int{10, 80, 150, 220, 30, 40, 50, 60}[:size])
}

func TestRingsThatAreRight(t *testing.T) {
	for size := 4; size <= 8; size++ {
		if !impl.RingOk(ringOf(size)) {
			t.Errorf("not right: %d peers", size)
		}
	}
	for why, change := range map[string]func(r *ring){
		"one more that is Here":            func(r *ring) { r.Peers[6] = knowingPlainly([]int{10, 50}, 50) },
		"all Here":                         func(r *ring) { hereAll(r) },
		"one of Behind that is, the last":  func(r *ring) { r.Peers[0].Behind = []int{30, 99, 80} },
		"one of Behind that is, the first": func(r *ring) { r.Peers[0].Behind = []int{80, 30, 99} },
		"one of Behind alone":              func(r *ring) { r.Peers[3].Behind = []int{150} },
		"all behind each other":            func(r *ring) { r.Peers[0].Behind, r.Peers[1].Behind = []int{80}, []int{10} },
		"one behind one that came":         func(r *ring) { hereAll(r); r.Peers[0].Behind = []int{30} },
		"nothing known but one":            func(r *ring) { r.Peers[0].Ahead, r.Peers[0].Fingers = -1, slices.Repeat([]int{-1}, 8) },
		"wrong but right":                  func(r *ring) { r.Peers[0].Ahead, r.Peers[0].Fingers[3] = 77, 78 },
		"shelves":                          func(r *ring) { r.Peers[2].Shelves = manyShelves(80) },
		"Ids of both ends":                 func(r *ring) { r.Peers[6].Id, r.Peers[7].Id = 0, 255 },
		"both ends behind":                 func(r *ring) { r.Peers[0].Behind = []int{255, 0, 80} },
		"the same Ahead and fingers of it": func(r *ring) { r.Peers[1].Ahead, r.Peers[1].Fingers[0] = 80, 80 },
	} {
		r := ringOf(8)
		change(&r)
		if !impl.RingOk(r) || !ringRight(r) {
			t.Errorf("not right: %s: %+v", why, r)
		}
	}
}

func hereAll(r *ring) {
	var ids []int
	for _, p := range r.Peers {
		ids = append(ids, p.Id)
	}
	for i, id := range ids {
		r.Peers[i] = knowingPlainly(ids, id)
	}
}

func TestRingsThatAreNotRight(t *testing.T) {
	for why, change := range map[string]func(r *ring){
		"one peer too many":                  func(r *ring) { r.Peers = append(r.Peers, peer{Id: 70}) },
		"many too many":                      func(r *ring) { r.Peers = slices.Concat(r.Peers, []peer{{Id: 70}, {Id: 71}, {Id: 72}}) },
		"three peers":                        func(r *ring) { r.Peers = r.Peers[:3] },
		"three that know each other":         func(r *ring) { r.Peers = r.Peers[:3]; hereAll(r) },
		"no peers":                           func(r *ring) { r.Peers = r.Peers[:0] },
		"nil":                                func(r *ring) { r.Peers = nil },
		"two Ids alike, both not Here":       func(r *ring) { r.Peers[7].Id = 30 },
		"two Ids alike, one Here":            func(r *ring) { r.Peers[7].Id = 10 },
		"two Ids alike, the last of Base":    func(r *ring) { r.Peers[4].Id = 220 },
		"two Ids alike, both Here":           func(r *ring) { r.Peers[1] = copiedPeer(r.Peers[0]) },
		"two Ids alike, both Here, at last":  func(r *ring) { r.Peers[7] = copiedPeer(r.Peers[3]) },
		"all alike":                          func(r *ring) { r.Peers = slices.Repeat(r.Peers[:1], 4) },
		"the first not Here":                 func(r *ring) { r.Peers[0] = peer{Id: 10} },
		"the last of Base not Here":          func(r *ring) { r.Peers[3] = peer{Id: 220} },
		"the order of Base":                  func(r *ring) { r.Peers[3], r.Peers[4] = r.Peers[4], r.Peers[3] },
		"nobody Here":                        func(r *ring) { r.Peers = []peer{{Id: 1}, {Id: 2}, {Id: 3}, {Id: 4}} },
		"nobody of Behind":                   func(r *ring) { r.Peers[2].Behind = nil },
		"nobody of Behind that is Here":      func(r *ring) { r.Peers[2].Behind = []int{30, 40, 60} },
		"nobody of Behind that there is":     func(r *ring) { r.Peers[0].Behind = []int{81, 0, 255} },
		"Behind some times round":            func(r *ring) { r.Peers[0].Behind = []int{336, 406, -36} },
		"one off the ring ahead of one Here": func(r *ring) { r.Peers[0].Behind = []int{-5, 80} },
		"one off the ring behind one Here":   func(r *ring) { r.Peers[3].Behind = []int{10, 80, 256} },
		"one of Behind not known":            func(r *ring) { r.Peers[1].Behind = []int{150, -1} },
		"one that came with nobody behind":   func(r *ring) { r.Peers[5] = knowingPlainly([]int{40, 30}, 40) },
		"one that came and knows nobody":     func(r *ring) { r.Peers[5] = knowingPlainly([]int{40}, 40) },
		"a peer that is not right":           func(r *ring) { r.Peers[1].Ahead = 256 },
		"a peer that is not right, at last":  func(r *ring) { r.Peers[7].Id = 256 },
		"one too many behind":                func(r *ring) { r.Peers[1].Behind = append(r.Peers[1].Behind, 30) },
		"one that is behind itself":          func(r *ring) { r.Peers[1].Behind = []int{10, 80} },
		"one not Here with an Ahead":         func(r *ring) { r.Peers[7].Ahead = 10 },
		"one not Here with somebody behind":  func(r *ring) { r.Peers[7].Behind = []int{10} },
		"one not Here with fingers":          func(r *ring) { r.Peers[7].Fingers = slices.Repeat([]int{-1}, 8) },
		"one not Here with shelves":          func(r *ring) { r.Peers[7].Shelves = manyShelves(1) },
		"one with shelves too many":          func(r *ring) { r.Peers[0].Shelves = manyShelves(81) },
		"one that came without fingers":      func(r *ring) { r.Peers[7] = peer{Id: 60, Here: true, Ahead: -1, Behind: []int{80}} },
		"one that came and has only its Id":  func(r *ring) { r.Peers[7].Here = true },
		"one that went and has all it had":   func(r *ring) { hereAll(r); r.Peers[7].Here = false },
		"one more than may be, all known":    func(r *ring) { r.Peers = append(r.Peers, peer{Id: 70}); hereAll(r) },
		"one not Here that has a Here twice": func(r *ring) { r.Peers[4] = peer{Id: 80} },
	} {
		r := ringOf(8)
		change(&r)
		if impl.RingOk(r) || ringRight(r) {
			t.Errorf("right: %s: %+v", why, r)
		}
	}
}

func TestThrownRings(t *testing.T) {
	d := dice(93)
	rights := 0
	for range 6000 {
		r := thrownRing(&d)
		if impl.RingOk(r) != ringRight(r) {
			t.Fatalf("RingOk(%+v) = %v", r, !ringRight(r))
		}
		if ringRight(r) {
			rights++
		}
		if got, want := impl.HereOf(r), herePlainly(r); !slices.Equal(got, want) {
			t.Fatalf("HereOf(%+v) = %v; want %v", r, got, want)
		}
		for id := -40; id < 260; id += 20 {
			holdPeer(t, r, id)
		}
	}
	if rights < 600 || rights > 5400 {
		t.Errorf("%d were right", rights)
	}
}

func holdPeer(t *testing.T, r ring, id int) {
	t.Helper()
	at := slices.IndexFunc(r.Peers, func(p peer) bool { return p.Here && p.Id == id })
	if got := impl.PeerAt(r, id); got != at {
		t.Fatalf("PeerAt(%+v, %d) = %d; want %d", r, id, got, at)
	}
	want := -1
	if at >= 0 {
		known := slices.IndexFunc(r.Peers[at].Behind, func(other int) bool { return isHere(r, other) })
		if known >= 0 {
			want = r.Peers[at].Behind[known]
		}
	}
	if got := impl.NextOf(r, id); got != want {
		t.Fatalf("NextOf(%+v, %d) = %d; want %d", r, id, got, want)
	}
}

// In a ring that is right each that is Here has a next one, and the others none.
func TestNextOnesOfRightRings(t *testing.T) {
	d := dice(94)
	for range 3000 {
		r := thrownRing(&d)
		if !impl.RingOk(r) {
			continue
		}
		here := impl.HereOf(r)
		if len(here) < 4 {
			t.Fatalf("%v are Here of %+v", here, r)
		}
		for _, p := range r.Peers {
			next := impl.NextOf(r, p.Id)
			if p.Here && (!slices.Contains(here, next) || next == p.Id) || !p.Here && next != -1 {
				t.Fatalf("NextOf(%+v, %d) = %d", r, p.Id, next)
			}
		}
	}
}

func TestNoPeers(t *testing.T) {
	for _, r := range []ring{{}, {Peers: []peer{}}, ringWithRoom(ring{})} {
		if len(impl.HereOf(r)) != 0 || impl.RingOk(r) {
			t.Errorf("%v are Here; right: %v", impl.HereOf(r), impl.RingOk(r))
		}
		for _, id := range ringNumbers {
			if impl.PeerAt(r, id) != -1 || impl.NextOf(r, id) != -1 {
				t.Errorf("of nobody: %d, %d", impl.PeerAt(r, id), impl.NextOf(r, id))
			}
		}
	}
	if impl.PeerOk(peer{Here: true}) || !impl.PeerOk(peer{}) {
		t.Error("a peer with nothing but its Id, and one that is Here so")
	}
	bare := ring{Peers: make([]peer, 8)}
	if impl.RingOk(bare) || len(impl.HereOf(bare)) != 0 || impl.NextOf(bare, 0) != -1 || impl.PeerAt(bare, 0) != -1 {
		t.Error("peers with nothing at all")
	}
	for i := range bare.Peers {
		bare.Peers[i].Here = true
	}
	if impl.RingOk(bare) || !slices.Equal(impl.HereOf(bare), []int{0}) || impl.NextOf(bare, 0) != -1 || impl.PeerAt(bare, 0) != 0 {
		t.Error("peers that are Here and have nothing")
	}
}

func TestRingsAreLeftAsTheyAre(t *testing.T) {
	d := dice(95)
	for i := range 60 {
		was := thrownRing(&d)
		if i%3 == 0 {
			was = ringOf(4 + i%5)
			was.Peers[1].Shelves = rightPeer().Shelves
		}
		r := ringWithRoom(was)
		impl.HereOf(r)
		impl.RingOk(r)
		for _, p := range r.Peers {
			impl.PeerOk(p)
			impl.PeerAt(r, p.Id)
			impl.NextOf(r, p.Id)
		}
		if !ringUntouched(r, was) {
			t.Fatalf("the ring was written into: %+v", r)
		}
		were := thrownIds(&d, i)
		ids := withRoom(were, -77)
		impl.RingNew(ids)
		if !untouched(ids, were, -77) {
			t.Fatalf("the ids were written into: %v", ids)
		}
	}
}

func TestNewRingsAreNewMemory(t *testing.T) {
	for _, c := range newRings() {
		ids := withRoom(c.ids, -77)
		first, second := impl.RingNew(ids), impl.RingNew(ids)
		listsApart(t, impl.RingNew(ids), "RingNew")
		spoilRing(&first)
		if !untouched(ids, c.ids, -77) {
			t.Errorf("RingNew gives room that is another's: %v", ids)
		}
		if !sameRing(second, c.want) || !sameRing(impl.RingNew(ids), c.want) {
			t.Errorf("two answers of RingNew share memory: %+v", second)
		}
		for i := range ids {
			ids[i] = -99
		}
		if !sameRing(second, c.want) {
			t.Errorf("RingNew keeps its ids: %+v", second)
		}
	}
}

func TestWhoIsHereIsNewMemory(t *testing.T) {
	was := ringOf(8)
	r := ringWithRoom(was)
	keepsApart(t, impl.HereOf(r), impl.HereOf(r), 77, "two answers of HereOf")
	for i := range r.Peers[:4] {
		keepsApart(t, impl.HereOf(r), r.Peers[i].Behind, 77, "HereOf and Behind")
	}
	if !ringUntouched(r, was) {
		t.Errorf("HereOf gives room that is another's: %+v", r)
	}
	here := impl.HereOf(r)
	spoilRing(&r)
	if !slices.Equal(here, []int{10, 80, 150, 220}) {
		t.Errorf("HereOf keeps the ring: %v", here)
	}
}

// An answer hangs neither on the one before it nor on those that are asked for at the same time.
func TestManyRingsAtOnce(t *testing.T) {
	d := dice(96)
	var rings []ring
	var lists [][]int
	for i := range 40 {
		rings = append(rings, thrownRing(&d))
		lists = append(lists, thrownIds(&d, i))
	}
	var group sync.WaitGroup
	for by := range 8 {
		group.Go(func() {
			for i := range rings {
				r, ids := rings[(i+by)%40], lists[(i+by)%40]
				if impl.RingOk(r) != ringRight(r) || !slices.Equal(impl.HereOf(r), herePlainly(r)) || !sameRing(impl.RingNew(ids), newPlainly(ids)) {
					t.Errorf("another answer of %+v and %v", r, ids)
				}
			}
		})
	}
	group.Wait()
}

// Many peers and ids, right or not, are no more than a while's work.
func TestManyPeersAndIds(t *testing.T) {
	const many = 200000
	peers, ids := make([]peer, many), make([]int, many)
	for i := range many {
		peers[i] = peer{Id: many - i, Here: i%2 == 0, Behind: []int{i}}
		ids[i] = i - many/2
	}
	r := ring{Peers: peers}
	here := impl.HereOf(r)
	if len(here) != many/2 || here[0] != 2 || here[len(here)-1] != many || impl.RingOk(r) {
		t.Errorf("%d of many are Here", len(here))
	}
	if impl.PeerAt(r, 2) != many-2 || impl.PeerAt(r, 1) != -1 || impl.NextOf(r, 2) != many-2 {
		t.Errorf("of many: %d, %d, %d", impl.PeerAt(r, 2), impl.PeerAt(r, 1), impl.NextOf(r, 2))
	}
	got := impl.RingNew(ids)
	if !sameRing(got, newPlainly([]int{0, 1, 2, 3, 4, 5, 6, 7})) {
		t.Errorf("of many ids: %+v", got)
	}
	for i := range ids {
		ids[i] = i % 3
	}
	if got = impl.RingNew(ids); len(got.Peers) != 0 {
		t.Errorf("of many alike: %+v", got)
	}
	p := rightPeer()
	p.Behind, p.Fingers, p.Shelves = make([]int, many), make([]int, many), make([]shelf, many)
	if impl.PeerOk(p) {
		t.Error("right with many of all")
	}
}
