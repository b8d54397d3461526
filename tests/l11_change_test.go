package tests

import (
	"slices"
	"sync"
	"testing"

	"loop.example/g00474/impl"
)

// wayOut is a change by its name, of one ring for one that changes and one that is asked, in the program and plainly.
type wayOut struct {
	name   string
	change func(r ring, id int, by int) (ring, bool)
	plain  func(r ring, id int, by int) (ring, bool)
}

var changes = []wayOut{
	{"Joined", impl.Joined, joinedPlainly},
	{"Gone", func(r ring, id int, by int) (ring, bool) { return impl.Gone(r, id) }, gonePlainly},
	{"Settle", func(r ring, id int, by int) (ring, bool) { return impl.Settle(r, id) }, settlesPlainly},
	{"Fingered", func(r ring, id int, by int) (ring, bool) { return impl.Fingered(r, id) }, fingeredPlainly},
}

// placePlainly is that of the first one with this Id that is Here, or of the first one that is not.
func placePlainly(r ring, id int, here bool) int {
	for i, p := range r.Peers {
		if p.Id == id && p.Here == here {
			return i
		}
	}
	return -1
}

// linePlainly is first, and those that first has behind it, without id, no more than three.
func linePlainly(r ring, id int, first int) []int {
	var line []int
	for _, other := range append([]int{first}, r.Peers[placePlainly(r, first, true)].Behind...) {
		if other != id && len(line) < 3 {
			line = append(line, other)
		}
	}
	return line
}

func unknown() []int { return []int{-1, -1, -1, -1, -1, -1, -1, -1} }

func joinedPlainly(r ring, id int, by int) (ring, bool) {
	next := copiedRing(r)
	at := placePlainly(r, id, false)
	way, ok := findPlainly(r, by, id)
	if at < 0 || !ok {
		return next, false
	}
	next.Peers[at] = peer{Id: id, Here: true, Ahead: -1, Behind: linePlainly(r, id, way.Owner), Fingers: unknown()}
	return next, true
}

func gonePlainly(r ring, id int, _ int) (ring, bool) {
	next := copiedRing(r)
	at := placePlainly(r, id, true)
	if at == -1 || at == 0 || at == 1 || at == 2 || at == 3 {
		return next, false
	}
	next.Peers[at] = peer{Id: id}
	for _, p := range next.Peers {
		if p.Here && !slices.ContainsFunc(p.Behind, func(other int) bool { return isHere(next, other) }) {
			return copiedRing(r), false
		}
	}
	return next, true
}

func settlesPlainly(r ring, id int, _ int) (ring, bool) {
	next := copiedRing(r)
	at := placePlainly(r, id, true)
	n, follows := nextPlainly(r, id)
	if at < 0 || !follows {
		return next, false
	}
	line := linePlainly(r, id, n)
	if mid := r.Peers[placePlainly(r, n, true)].Ahead; mid != -1 && mid != id && mid != n && isHere(r, mid) && betweenPlainly(id, mid, n) {
		line = linePlainly(r, id, mid)
	}
	next.Peers[at].Behind = line
	if len(line) == 0 || !isHere(r, line[0]) {
		return next, true
	}
	told := &next.Peers[placePlainly(r, line[0], true)]
	if told.Ahead == -1 || !isHere(r, told.Ahead) || betweenPlainly(told.Ahead, id, told.Id) {
		told.Ahead = id
	}
	return next, true
}

func fingeredPlainly(r ring, id int, _ int) (ring, bool) {
	next := copiedRing(r)
	at := placePlainly(r, id, true)
	if at < 0 {
		return next, false
	}
	var fingers []int
	for _, far := range []int{1, 2, 4, 8, 16, 32, 64, 128} {
		way, _ := findPlainly(r, id, id+far)
		fingers = append(fingers, way.Owner)
	}
	next.Peers[at].Fingers = fingers
	return next, true
}

func idealPlainly(r ring) bool {
	here := herePlainly(r)
	for _, p := range r.Peers {
		if !p.Here {
			continue
		}
		others := orderedPlainly(here, p.Id)
		ahead := append([]int{-1}, others...)[len(others)]
		var fingers []int
		for _, far := range []int{1, 2, 4, 8, 16, 32, 64, 128} {
			fingers = append(fingers, ownerPlainly(here, p.Id+far))
		}
		if p.Ahead != ahead || !slices.Equal(p.Behind, others[:min(3, len(others))]) || !slices.Equal(p.Fingers, fingers) {
			return false
		}
	}
	return true
}

// holdChange holds an answer of the program, and that of the plain form, against what is wanted: false wants the ring as it is.
func holdChange(t *testing.T, c wayOut, r ring, id int, by int, want ring, wantOk bool) {
	t.Helper()
	if !wantOk {
		want = r
	}
	if got, ok := c.change(r, id, by); ok != wantOk || !sameRing(got, want) {
		t.Errorf("%s(%+v, %d, %d) = %+v, %v; want %+v, %v", c.name, r.Peers, id, by, got.Peers, ok, want.Peers, wantOk)
	}
	if got, ok := c.plain(r, id, by); ok != wantOk || !sameRing(got, want) {
		t.Errorf("plainly: %s of %+v by %d, %d = %+v, %v; want %+v, %v", c.name, r.Peers, id, by, got.Peers, ok, want.Peers, wantOk)
	}
}

// with is the ring with another one at this place.
func with(r ring, at int, p peer) ring {
	r = copiedRing(r)
	r.Peers[at] = p
	return r
}

// knowingOnly is Here, and knows no more than who stands behind it.
func knowingOnly(id int, behind ...int) peer {
	return peer{Id: id, Here: true, Ahead: -1, Behind: behind, Fingers: unknown()}
}

func ahead(p peer, of int) peer {
	p.Ahead = of
	return p
}

// come has all come, each by the first one, one after another; nobody tells of them yet.
func come(t *testing.T, r ring, ids ...int) ring {
	t.Helper()
	for _, id := range ids {
		next, ok := impl.Joined(r, id, r.Peers[0].Id)
		if !ok {
			t.Fatalf("%d does not come to %+v", id, r.Peers)
		}
		r = next
	}
	return r
}

// mended has all that are Here settle, and then look for their fingers, round by round, until all know all as it is.
func mended(t *testing.T, r ring) ring {
	t.Helper()
	for range 12 {
		if impl.Ideal(r) {
			return r
		}
		for _, act := range changes[2:] {
			for _, id := range impl.HereOf(r) {
				next, ok := act.change(r, id, -1)
				if want, _ := act.plain(r, id, -1); !ok || !sameRing(next, want) || !impl.RingOk(next) {
					t.Fatalf("%s(%+v, %d) = %+v, %v; want %+v", act.name, r.Peers, id, next.Peers, ok, want.Peers)
				}
				r = next
			}
		}
	}
	t.Fatalf("not all know all as it is: %+v", r.Peers)
	return r
}

func TestWhoComesByHand(t *testing.T) {
	r := ringOf(5)
	for _, by := range []int{10, 80, 150, 220} {
		holdChange(t, changes[0], r, 30, by, with(r, 4, knowingOnly(30, 80, 150, 220)), true)
	}
	ends := newPlainly([]int{250, 5, 100, 180, 253, 255, 0, 251, 2})
	for at, id := range map[int]int{4: 253, 5: 255, 6: 0, 7: 251} {
		holdChange(t, changes[0], ends, id, 100, with(ends, at, knowingOnly(id, 5, 100, 180)), true)
	}
	holdChange(t, changes[0], ends, 2, 100, ends, false)
	ends = newPlainly([]int{250, 5, 100, 180, 249, 6, 2})
	holdChange(t, changes[0], ends, 249, 180, with(ends, 4, knowingOnly(249, 250, 5, 100)), true)
	holdChange(t, changes[0], ends, 6, 180, with(ends, 5, knowingOnly(6, 100, 180, 250)), true)
	holdChange(t, changes[0], ends, 2, 5, with(ends, 6, knowingOnly(2, 5, 100, 180)), true)
	// One that nobody was told of is known to itself alone.
	came := come(t, r, 30)
	if impl.NextOf(came, 30) != 80 || !impl.RingOk(came) || impl.Ideal(came) {
		t.Errorf("came, and is not known: %+v", came.Peers)
	}
	r = ringOf(6)
	holdChange(t, changes[0], come(t, r, 30), 40, 30, with(with(r, 4, knowingOnly(30, 80, 150, 220)), 5, knowingOnly(40, 80, 150, 220)), true)
	holdChange(t, changes[0], come(t, r, 40), 30, 40, with(with(r, 4, knowingOnly(30, 80, 150, 220)), 5, knowingOnly(40, 80, 150, 220)), true)
}

func TestWhoDoesNotCome(t *testing.T) {
	r := ringOf(6)
	came := come(t, r, 30)
	far := row(numbered(0, 199))
	far.Peers = append(far.Peers, peer{Id: 230})
	holdChange(t, changes[0], far, 230, 135, with(far, 200, knowingOnly(230, 0, 1)), true)
	for _, c := range []struct {
		why    string
		r      ring
		id, by int
	}{
		{"no peers", ring{}, 30, 10},
		{"by is not Here", r, 30, 40}, {"by is not there", r, 30, 99}, {"by is nobody", r, 30, -1}, {"by is the one that comes", r, 30, 30}, {"by is some times round", r, 30, 266},
		{"nobody has the Id", r, 99, 10}, {"the Id is nobody's", r, -1, 10}, {"the Id is some times round", r, 286, 10}, {"all are numbers of none", r, -1, -1},
		{"one of the first is Here", r, 10, 80}, {"it is Here by itself", r, 10, 10}, {"it came already", came, 30, 10}, {"it came already, by itself", came, 30, 30}, {"by went", with(came, 4, peer{Id: 30}), 40, 30},
		{"by knows nobody", with(r, 0, knowingOnly(10)), 30, 10}, {"by knows nobody that is Here", with(r, 0, knowingOnly(10, 30, 40, 99)), 30, 10},
		{"one that is asked knows nobody", with(r, 0, knowingOnly(10)), 30, 220},
		{"it goes round", ring{Peers: []peer{knowingOnly(300, 40), knowingOnly(40, 41, 300), knowingOnly(41, 300), {Id: 44}}}, 44, 40},
		{"it is too far", far, 230, 133},
	} {
		holdChange(t, changes[0], c.r, c.id, c.by, c.r, false)
		if t.Failed() {
			t.Fatal(c.why)
		}
	}
}

// What the one it belongs to knows is known then, but for the one that comes, as much as there is room for.
func TestLinesOfThoseThatCome(t *testing.T) {
	r := ringOf(6)
	for _, c := range []struct {
		known []int
		want  []int
	}{
		{[]int{150}, []int{80, 150}}, {[]int{150, 220}, []int{80, 150, 220}}, {[]int{150, 220, 10}, []int{80, 150, 220}}, {[]int{150, 220, 10, 40}, []int{80, 150, 220}},
		{[]int{30, 150}, []int{80, 150}}, {[]int{150, 30}, []int{80, 150}}, {[]int{30, 150, 220}, []int{80, 150, 220}}, {[]int{150, 30, 220}, []int{80, 150, 220}}, {[]int{150, 220, 30}, []int{80, 150, 220}}, {[]int{30, 150, 30, 220, 30, 10}, []int{80, 150, 220}}, {[]int{30, 30, 30, 150}, []int{80, 150}},
		{[]int{40, 150}, []int{80, 40, 150}}, {[]int{99, 40, 150}, []int{80, 99, 40}}, {[]int{150, 150, 150}, []int{80, 150, 150}}, {[]int{80, 150}, []int{80, 80, 150}}, {[]int{80}, []int{80, 80}}, {[]int{10, 150, 220}, []int{80, 10, 150}}, {[]int{-1, 286, 150}, []int{80, -1, 286}},
	} {
		known := with(r, 1, knowingOnly(80, c.known...))
		holdChange(t, changes[0], known, 30, 10, with(known, 4, knowingOnly(30, c.want...)), true)
	}
	// One that it belongs to itself knows nobody: another one tells of it.
	known := with(r, 1, knowingOnly(80))
	holdChange(t, changes[0], known, 30, 10, with(known, 4, knowingOnly(30, 80)), true)
	known = with(r, 1, knowingOnly(80, 30))
	holdChange(t, changes[0], known, 30, 10, with(known, 4, knowingOnly(30, 80)), true)
	// It is one of the first, in a ring that is not right.
	known = with(ringOf(5), 2, peer{Id: 150})
	holdChange(t, changes[0], known, 150, 10, with(known, 2, knowingOnly(150, 220, 10, 80)), true)
}

// One who comes has no more than it is told, whatever stood there.
func TestWhoComesHasNothing(t *testing.T) {
	odd := peer{Id: 30, Ahead: 7, Behind: []int{1, 2}, Fingers: []int{3}, Shelves: rightPeer().Shelves}
	r := with(ringOf(6), 4, odd)
	holdChange(t, changes[0], r, 30, 10, with(r, 4, knowingOnly(30, 80, 150, 220)), true)
	holdChange(t, changes[0], r, 40, 10, with(r, 5, knowingOnly(40, 80, 150, 220)), true)
}

// It is the first one that is not Here, also when others with its Id are, or it is off the ring.
func TestWhoComesWithIdsThatAreThereTwice(t *testing.T) {
	one, two := knowingOnly(10, 80, 30), knowingOnly(80, 10)
	for _, c := range []struct {
		peers  []peer
		id, by int
		at     int
		want   []int
	}{
		{[]peer{one, two, {Id: 30}, {Id: 30}}, 30, 10, 2, []int{80, 10}},
		{[]peer{{Id: 30}, one, {Id: 30}, two}, 30, 80, 0, []int{80, 10}},
		{[]peer{one, two, {Id: 10}}, 10, 80, 2, []int{80, 30}},
		{[]peer{one, two, {Id: 10}}, 10, 10, 2, []int{80, 30}},
		{[]peer{{Id: 10}, one, two}, 10, 10, 0, []int{80, 30}},
		{[]peer{{Id: 10}, one, two}, 10, 80, 0, []int{80, 30}},
		{[]peer{one, {Id: 80}, two, {Id: 30}}, 30, 10, 3, []int{80, 10}},
		{[]peer{one, knowingOnly(80, 20), two, {Id: 30}}, 30, 10, 3, []int{80, 20}},
		{[]peer{one, two, {Id: 286}}, 286, 10, 2, []int{80, 10}},
		{[]peer{one, two, {Id: -226}, {Id: 30}}, -226, 10, 2, []int{80, 10}},
		{[]peer{one, two, {Id: -1}}, -1, 80, 2, []int{10, 80, 30}},
		{[]peer{knowingOnly(-1, 80), knowingOnly(80, 100), knowingOnly(100, 80), {Id: 30}}, 30, -1, 3, []int{80, 100}},
	} {
		r := ring{Peers: c.peers}
		want := c.want
		if c.id == 10 {
			// It belongs to one with its own Id, who is not among those that it knows.
			want = want[:2]
		}
		holdChange(t, changes[0], r, c.id, c.by, with(r, c.at, knowingOnly(c.id, want...)), true)
	}
}

func TestWhoGoesByHand(t *testing.T) {
	r := come(t, ringOf(6), 30, 40)
	holdChange(t, changes[1], r, 30, -1, with(r, 4, peer{Id: 30}), true)
	holdChange(t, changes[1], r, 40, -1, with(r, 5, peer{Id: 40}), true)
	all := ringOf(8)
	hereAll(&all)
	for at, id := range map[int]int{4: 30, 5: 40, 6: 50, 7: 60} {
		all.Peers[at].Shelves = rightPeer().Shelves
		holdChange(t, changes[1], all, id, -1, with(all, at, peer{Id: id}), true)
	}
	// It comes again as one who was never there.
	gone, _ := impl.Gone(all, 40)
	holdChange(t, changes[0], gone, 40, 30, with(gone, 5, knowingOnly(40, 50, 60, 80)), true)
}

func TestWhoDoesNotGo(t *testing.T) {
	all := ringOf(8)
	hereAll(&all)
	leans := with(all, 0, knowingOnly(10, 30))
	two := with(all, 0, knowingOnly(10, 30, 30, 99))
	for _, c := range []struct {
		why string
		r   ring
		id  int
	}{
		{"no peers", ring{}, 10},
		{"one of the first", all, 10}, {"one of the first", all, 80}, {"one of the first", all, 150}, {"one of the first, just", all, 220},
		{"not Here", ringOf(8), 30}, {"not Here, the last", ringOf(8), 60}, {"not there", all, 99}, {"nobody", all, -1}, {"some times round", all, 286},
		{"somebody knows nobody else", leans, 30}, {"somebody knows it alone, more than once", two, 30}, {"somebody knows others that are not Here", with(come(t, ringOf(6), 30), 0, knowingOnly(10, 40, 30, 50)), 30},
		{"one that came knows nobody else", with(all, 7, knowingOnly(60, 50)), 50}, {"somebody knows nobody ahead of that", with(all, 2, knowingOnly(150)), 30}, {"somebody that came knows nobody ahead of that", with(all, 6, knowingOnly(50, 99)), 30},
		{"the second one with an Id knows nobody else", with(all, 6, knowingOnly(10, 30)), 30},
		{"the first Here of these is one of the first", with(with(all, 0, knowingOnly(30, 80)), 5, peer{Id: 30}), 30},
	} {
		holdChange(t, changes[1], c.r, c.id, -1, c.r, false)
		if t.Failed() {
			t.Fatal(c.why)
		}
	}
	holdChange(t, changes[1], leans, 40, -1, with(leans, 5, peer{Id: 40}), true)
}

// Somebody who has itself behind it, or has none, and goes, is asked no more; one who stays is.
func TestWhoGoesWithListsThatHaveThemselves(t *testing.T) {
	all := ringOf(8)
	hereAll(&all)
	for _, c := range []struct {
		why string
		r   ring
		ok  bool
	}{
		{"it knows nobody", with(all, 4, knowingOnly(30)), true},
		{"it knows itself alone", with(all, 4, knowingOnly(30, 30)), true},
		{"it knows nobody that is Here", with(all, 4, knowingOnly(30, 99)), true},
		{"one that stays knows itself beside it", with(all, 0, knowingOnly(10, 30, 10)), true},
		{"one that stays knows itself alone", with(all, 0, knowingOnly(10, 10)), true},
		{"one that stays knows one with its Id", with(with(all, 0, knowingOnly(10, 30)), 6, knowingOnly(30, 80)), true},
		{"one that is not Here knows nobody", with(all, 6, peer{Id: 50, Behind: []int{30}}), true},
		{"two that know each other", with(with(all, 4, knowingOnly(30, 40)), 5, knowingOnly(40, 30)), false},
	} {
		holdChange(t, changes[1], c.r, 30, -1, with(c.r, 4, peer{Id: 30}), c.ok)
		if t.Failed() {
			t.Fatal(c.why)
		}
	}
	// One of the first is not Here, and has the same Id as one behind them that is.
	r := with(all, 2, peer{Id: 30, Shelves: manyShelves(2)})
	holdChange(t, changes[1], r, 30, -1, with(r, 4, peer{Id: 30}), true)
}

func TestSettledByHand(t *testing.T) {
	r := ringOf(8)
	// All is as it is: nothing else is told.
	for _, id := range []int{10, 80, 150, 220} {
		holdChange(t, changes[2], r, id, -1, r, true)
	}
	// One came, settles, and is told of.
	came := come(t, r, 30)
	told := with(came, 1, ahead(came.Peers[1], 30))
	holdChange(t, changes[2], came, 30, -1, told, true)
	holdChange(t, changes[2], came, 10, -1, came, true)
	known := with(with(told, 0, knowingPlainly([]int{10, 30, 80, 150, 220}, 10)), 4, ahead(told.Peers[4], 10))
	known.Peers[0].Ahead, known.Peers[0].Fingers = 220, r.Peers[0].Fingers
	holdChange(t, changes[2], told, 10, -1, known, true)
	// One went, and those ahead of it ask whom it knew of.
	all := ringOf(8)
	hereAll(&all)
	gone, _ := impl.Gone(all, 30)
	next := with(gone, 0, ahead(gone.Peers[0], 220))
	next.Peers[0].Behind = []int{40, 50, 60}
	next.Peers[5].Ahead = 10
	holdChange(t, changes[2], gone, 10, -1, next, true)
}

// settling is the ring of 10, who asks 100; 30 and 60 are Here between both, 50 is not, 70 there is not.
func settling(line []int, told peer, others ...peer) ring {
	r := ring{Peers: []peer{knowingOnly(10, line...), told, knowingOnly(30, 31, 32, 33), knowingOnly(60, 61, 10, 63), knowingOnly(200, 10), {Id: 50}}}
	r.Peers = append(r.Peers, others...)
	return r
}

// Whom the one behind has ahead of it is asked instead, when it stands between.
func TestWhoStandsAheadOfTheNextOne(t *testing.T) {
	for _, c := range []struct {
		ahead int
		want  []int
	}{
		{-1, []int{100, 200, 20}}, {30, []int{30, 31, 32}}, {60, []int{60, 61, 63}}, {50, []int{100, 200, 20}}, {70, []int{100, 200, 20}}, {100, []int{100, 200, 20}}, {10, []int{100, 200, 20}}, {200, []int{100, 200, 20}}, {286, []int{100, 200, 20}}, {266, []int{100, 200, 20}},
	} {
		r := settling([]int{100}, peer{Id: 100, Here: true, Ahead: c.ahead, Behind: []int{200, 20, 30}, Fingers: unknown()})
		want := with(r, 0, knowingOnly(10, c.want...))
		switch c.want[0] {
		case 30, 60:
			at := placePlainly(want, c.want[0], true)
			want.Peers[at].Ahead = 10
		default:
			if c.ahead != 10 {
				want.Peers[1].Ahead = 10
			}
		}
		holdChange(t, changes[2], r, 10, -1, want, true)
	}
}

// What the one that is asked knows is known then, but for the asking one, as much as there is room for.
func TestLinesOfThoseThatSettle(t *testing.T) {
	for _, c := range []struct {
		line  []int
		known []int
		want  []int
	}{
		{[]int{100}, nil, []int{100}}, {[]int{100}, []int{200}, []int{100, 200}}, {[]int{100}, []int{200, 30}, []int{100, 200, 30}}, {[]int{100}, []int{200, 30, 60}, []int{100, 200, 30}}, {[]int{100}, []int{200, 30, 60, 40}, []int{100, 200, 30}},
		{[]int{100}, []int{10}, []int{100}}, {[]int{100}, []int{10, 200}, []int{100, 200}}, {[]int{100}, []int{200, 10}, []int{100, 200}}, {[]int{100}, []int{10, 200, 30}, []int{100, 200, 30}}, {[]int{100}, []int{200, 10, 30}, []int{100, 200, 30}}, {[]int{100}, []int{200, 30, 10}, []int{100, 200, 30}}, {[]int{100}, []int{10, 10, 200, 10, 10, 30}, []int{100, 200, 30}},
		{[]int{100}, []int{100, 200}, []int{100, 100, 200}}, {[]int{100}, []int{50, 70, 200}, []int{100, 50, 70}}, {[]int{100}, []int{200, 200}, []int{100, 200, 200}},
		{[]int{50, 70, 100, 200}, []int{30}, []int{100, 30}}, {[]int{70, 100, 30}, []int{30}, []int{100, 30}}, {[]int{100, 200, 30}, nil, []int{100}}, {[]int{-1, 100}, []int{-1, 300}, []int{100, -1, 300}},
	} {
		r := settling(c.line, knowingOnly(100, c.known...))
		want := with(with(r, 0, knowingOnly(10, c.want...)), 1, ahead(r.Peers[1], 10))
		holdChange(t, changes[2], r, 10, -1, want, true)
		// Likewise of one between.
		r = settling(c.line, ahead(knowingOnly(100, 1, 2, 3), 40), knowingOnly(40, c.known...))
		line := slices.Clone(c.want)
		line[0] = 40
		holdChange(t, changes[2], r, 10, -1, with(with(r, 0, knowingOnly(10, line...)), 6, ahead(r.Peers[6], 10)), true)
	}
}

// The first one is told of the asking one, when it knows of none that is nearer.
func TestWhoIsTold(t *testing.T) {
	for _, c := range []struct {
		ahead int
		told  bool
	}{
		{-1, true}, {50, true}, {70, true}, {10, false}, {200, true}, {100, true}, {300, true}, {-7, true}, {9, true}, {8, false}, {255, true}, {99, true}, {101, true},
	} {
		r := settling([]int{100}, ahead(knowingOnly(100, 200), c.ahead))
		if c.ahead == 8 {
			// The asking one has its Id some times round, and stands where this one does.
			r.Peers = append(r.Peers, knowingOnly(8, 100))
			r.Peers[0].Id = 264
			r.Peers[4].Behind = []int{8}
		}
		want := with(r, 0, knowingOnly(r.Peers[0].Id, 100, 200))
		if c.told {
			want.Peers[1].Ahead = want.Peers[0].Id
		}
		holdChange(t, changes[2], r, r.Peers[0].Id, -1, want, true)
	}
	// One behind those who are asked is Here, and is nearer: it is not told, but asked.
	r := settling([]int{100}, ahead(knowingOnly(100, 200), 30))
	r.Peers[2].Ahead = 20
	r.Peers = append(r.Peers, knowingOnly(20, 30))
	holdChange(t, changes[2], r, 10, -1, with(r, 0, knowingOnly(10, 30, 31, 32)), true)
	r.Peers[2].Ahead = 200
	holdChange(t, changes[2], r, 10, -1, with(with(r, 0, knowingOnly(10, 30, 31, 32)), 2, ahead(r.Peers[2], 10)), true)
	// Near both ends of the numbers.
	r = ring{Peers: []peer{knowingOnly(250, 5), ahead(knowingOnly(5, 100), 240), ahead(knowingOnly(240, 250), 100), ahead(knowingOnly(100, 240), 5), {Id: 0}}}
	holdChange(t, changes[2], r, 250, -1, with(with(r, 0, knowingOnly(250, 5, 100)), 1, ahead(r.Peers[1], 250)), true)
	r = come(t, r, 0)
	r.Peers[1].Ahead = 0
	holdChange(t, changes[2], r, 250, -1, with(with(r, 0, knowingOnly(250, 0, 5, 100)), 4, ahead(r.Peers[4], 250)), true)
	r.Peers[0].Ahead = 240
	holdChange(t, changes[2], r, 240, -1, with(r, 2, ahead(knowingOnly(240, 250, 5), 100)), true)
}

func TestWhoDoesNotSettle(t *testing.T) {
	r := ringOf(6)
	for _, c := range []struct {
		r  ring
		id int
	}{
		{ring{}, 10}, {r, 30}, {r, 99}, {r, -1}, {r, 266}, {with(r, 0, knowingOnly(10)), 10}, {with(r, 0, knowingOnly(10, 30, 40, 99)), 10}, {with(r, 0, knowingOnly(10, -1)), 10}, {with(r, 0, peer{Id: 10, Behind: []int{80}}), 10},
		{ring{Peers: []peer{knowingOnly(10), knowingOnly(10, 80), knowingOnly(80, 10)}}, 10},
	} {
		holdChange(t, changes[2], c.r, c.id, -1, c.r, false)
	}
}

// In rings that are not right one may have itself behind it, or stand where another one does.
func TestSettledWithListsThatHaveThemselves(t *testing.T) {
	for _, c := range []struct {
		why   string
		peers []peer
		id    int
		at    int
		want  []int
		told  int
	}{
		{"it asks itself alone", []peer{knowingOnly(10, 10), knowingOnly(80, 10)}, 10, 0, nil, -1},
		{"it asks itself, and has another one behind", []peer{knowingOnly(10, 10, 80), knowingOnly(80, 10)}, 10, 0, []int{80}, 1},
		{"it asks itself, and has one that is not Here behind", []peer{knowingOnly(10, 10, 30, 80), knowingOnly(80, 10), {Id: 30}}, 10, 0, []int{30, 80}, -1},
		{"it asks itself, and has one that is not there behind", []peer{knowingOnly(10, 10, 99, 80, 60, 70), knowingOnly(80, 10)}, 10, 0, []int{99, 80, 60}, -1},
		{"it asks itself, who has one ahead", []peer{ahead(knowingOnly(10, 10), 80), knowingOnly(80, 10, 30)}, 10, 0, []int{80, 30}, 1},
		{"it asks itself, who is ahead of itself", []peer{ahead(knowingOnly(10, 10, 80), 10), knowingOnly(80, 10)}, 10, 0, []int{80}, 1},
		{"it asks one with the Id of another one", []peer{knowingOnly(10, 80), knowingOnly(80, 30), knowingOnly(80, 40)}, 10, 0, []int{80, 30}, 1},
		{"it asks one that stands where it does", []peer{knowingOnly(10, 266), knowingOnly(266, 30, 10)}, 10, 0, []int{266, 30}, 1},
		{"the next one has ahead of it whom it stands with", []peer{knowingOnly(10, 80), ahead(knowingOnly(80, 30), 336), knowingOnly(336, 40)}, 10, 0, []int{336, 40}, 2},
		{"the next one is one with the Id -1", []peer{knowingOnly(10, -1), knowingOnly(-1, 80), knowingOnly(80, 10)}, 10, 0, []int{-1, 80}, 1},
		{"-1 ahead is nobody known", []peer{knowingOnly(10, 3), ahead(knowingOnly(3, 80), -1), knowingOnly(-1, 40)}, 10, 0, []int{3, 80}, 1},
		{"the asking one has the Id -1", []peer{knowingOnly(-1, 80), knowingOnly(80, -1, 90)}, -1, 0, []int{80, 90}, 1},
	} {
		r := ring{Peers: c.peers}
		line := r.Peers[c.at]
		line.Behind = c.want
		want := with(r, c.at, line)
		if c.told >= 0 {
			want.Peers[c.told].Ahead = c.id
		}
		holdChange(t, changes[2], r, c.id, -1, want, true)
		if t.Failed() {
			t.Fatal(c.why)
		}
	}
}

func TestFingeredByHand(t *testing.T) {
	r := ringOf(5)
	for i, id := range []int{10, 80, 150, 220} {
		blank := r.Peers[i]
		blank.Fingers = unknown()
		holdChange(t, changes[3], with(r, i, blank), id, -1, r, true)
		holdChange(t, changes[3], r, id, -1, r, true)
	}
	came := come(t, r, 30)
	found := came.Peers[4]
	found.Fingers = []int{80, 80, 80, 80, 80, 80, 150, 220}
	holdChange(t, changes[3], came, 30, -1, with(came, 4, found), true)
	// Places go round past 255.
	ends := newPlainly([]int{250, 5, 100, 180})
	blank := ends.Peers[0]
	blank.Fingers = nil
	holdChange(t, changes[3], with(ends, 0, blank), 250, -1, ends, true)
	if want := []int{5, 5, 5, 5, 100, 100, 100, 180}; !slices.Equal(ends.Peers[0].Fingers, want) {
		t.Errorf("fingers of 250: %v", ends.Peers[0].Fingers)
	}
}

// A place that is not found is not known, and the others are; what it knew of itself still holds while it asks.
func TestFingersThatAreNotFound(t *testing.T) {
	lost := ring{Peers: []peer{knowingOnly(10, 40), knowingOnly(40, 60), knowingOnly(60)}}
	want := with(lost, 0, lost.Peers[0])
	want.Peers[0].Fingers = []int{40, 40, 40, 40, 40, 60, -1, -1}
	holdChange(t, changes[3], lost, 10, -1, want, true)
	want = with(lost, 2, lost.Peers[2])
	holdChange(t, changes[3], lost, 60, -1, want, true)
	// A finger that leads on is asked for all the places, also those ahead of which it is told anew.
	leads := ring{Peers: []peer{knowingOnly(10, 40), knowingOnly(40, 60), knowingOnly(60), knowingOnly(100, 10, 110), knowingOnly(70, 100)}}
	leads.Peers[0].Fingers = []int{70}
	want = with(leads, 0, leads.Peers[0])
	want.Peers[0].Fingers = []int{40, 40, 40, 40, 40, 60, 100, 10}
	holdChange(t, changes[3], leads, 10, -1, want, true)
	leads.Peers[0].Fingers = []int{100, -1, 40}
	want.Peers[0].Fingers = []int{40, 40, 40, 40, 40, 60, -1, 10}
	holdChange(t, changes[3], leads, 10, -1, want, true)
	for _, c := range []struct {
		r  ring
		id int
	}{{ring{}, 10}, {ringOf(5), 30}, {ringOf(5), 99}, {ringOf(5), -1}, {ringOf(5), 266}} {
		holdChange(t, changes[3], c.r, c.id, -1, c.r, false)
	}
	// One who knows nobody is Here all the same.
	alone := with(ringOf(5), 0, peer{Id: 10, Here: true, Ahead: 3, Fingers: []int{80, 80}})
	want = with(alone, 0, peer{Id: 10, Here: true, Ahead: 3, Fingers: unknown()})
	holdChange(t, changes[3], alone, 10, -1, want, true)
}

func holdIdeal(t *testing.T, r ring, want bool, why string) {
	t.Helper()
	if impl.Ideal(r) != want || idealPlainly(r) != want {
		t.Errorf("Ideal %v, plainly %v, want %v: %s: %+v", impl.Ideal(r), idealPlainly(r), want, why, r.Peers)
	}
}

func TestIdealRings(t *testing.T) {
	for _, c := range newRings() {
		holdIdeal(t, c.want, true, "a new ring")
		hereAll(&c.want)
		holdIdeal(t, c.want, true, "a new ring of which all are Here")
	}
	holdIdeal(t, ring{}, true, "no peers")
	holdIdeal(t, ring{Peers: []peer{{Id: 10}, {Id: 30}}}, true, "nobody is Here")
	one := peer{Id: 10, Here: true, Ahead: -1, Fingers: slices.Repeat([]int{10}, 8)}
	holdIdeal(t, ring{Peers: []peer{one, {Id: 30}}}, true, "one alone")
	holdIdeal(t, ring{Peers: []peer{one, one}}, true, "one alone, twice")
	holdIdeal(t, ring{Peers: []peer{ahead(one, 10)}}, false, "one alone that is ahead of itself")
	holdIdeal(t, ring{Peers: []peer{ahead(one, 0)}}, false, "one alone with nobody's number ahead")
	holdIdeal(t, ring{Peers: []peer{{Id: 10, Here: true, Ahead: -1, Fingers: unknown()}}}, false, "one alone that does not know itself")
	for size := 2; size <= 12; size++ {
		holdIdeal(t, knowingAll(numbered(250, 255)[:min(size, 6)]), true, "side by side")
		holdIdeal(t, knowingAll(numbered(3, 2+size)), true, "as many as there are, and more than a ring has")
	}
	shelves := ringOf(6)
	shelves.Peers[1].Shelves = rightPeer().Shelves
	holdIdeal(t, shelves, true, "with shelves")
	shelves.Peers[5] = rightPeer()
	shelves.Peers[5].Id, shelves.Peers[5].Here = 40, false
	holdIdeal(t, shelves, true, "one that is not Here has something")
	order := ringOf(8)
	slices.Reverse(order.Peers)
	holdIdeal(t, order, true, "in another order")
}

// One number more, less, or another one, of one that is Here, is not as it is; of one that is not it does not matter.
func TestRingsThatAreNotIdeal(t *testing.T) {
	for _, size := range []int{4, 8} {
		for _, all := range []bool{false, true} {
			r := ringOf(size)
			if all {
				hereAll(&r)
			}
			for at := range r.Peers {
				for why, other := range knowingElse(r.Peers[at]) {
					holdIdeal(t, with(r, at, other), !other.Here, why)
				}
			}
		}
	}
	r := ringOf(8)
	r.Peers[4].Here = true
	holdIdeal(t, r, false, "one is Here, and nobody knows it")
	hereAll(&r)
	r.Peers[4].Here = false
	holdIdeal(t, r, false, "one is not Here, and all know it")
	r = ringOf(8)
	holdIdeal(t, come(t, r, 30), false, "one came")
	r.Peers = append(r.Peers, peer{Id: 80, Here: true, Ahead: 10})
	holdIdeal(t, r, false, "one with the Id of another one knows nobody")
	r.Peers[8] = copiedPeer(r.Peers[1])
	holdIdeal(t, r, true, "one is there twice, and knows all twice")
}

// knowingElse are those that know something else in one place.
func knowingElse(p peer) map[string]peer {
	all := map[string]peer{}
	put := func(why string, change func(p *peer)) {
		other := copiedPeer(p)
		change(&other)
		all[why] = other
	}
	for _, n := range []int{-1, p.Ahead + 1, p.Ahead - 1, p.Id, p.Ahead + 256} {
		put("Ahead", func(p *peer) { p.Ahead = n })
		if n == p.Ahead {
			delete(all, "Ahead")
		}
	}
	put("one more behind", func(p *peer) { p.Behind = append(p.Behind, 30) })
	put("one more finger", func(p *peer) { p.Fingers = append(p.Fingers, 80) })
	put("nobody behind", func(p *peer) { p.Behind = []int{-1} })
	put("no fingers", func(p *peer) { p.Fingers = []int{-1} })
	put("itself ahead of those behind", func(p *peer) { p.Behind = append([]int{p.Id}, p.Behind...) })
	for i := range p.Behind {
		put("another one behind"+string(rune('0'+i)), func(p *peer) { p.Behind[i]++ })
		put("one less behind"+string(rune('0'+i)), func(p *peer) { p.Behind = slices.Delete(p.Behind, i, i+1) })
	}
	for i := range p.Fingers {
		put("another finger"+string(rune('0'+i)), func(p *peer) { p.Fingers[i] = -1 })
		put("one finger less"+string(rune('0'+i)), func(p *peer) { p.Fingers = slices.Delete(p.Fingers, i, i+1) })
	}
	return all
}

// orders are all the orders of these.
func orders(ids []int) [][]int {
	if len(ids) == 0 {
		return [][]int{nil}
	}
	var all [][]int
	for i, id := range ids {
		rest := slices.Delete(slices.Clone(ids), i, i+1)
		for _, tail := range orders(rest) {
			all = append(all, append([]int{id}, tail...))
		}
	}
	return all
}

// holdCame is for a right ring to which one came.
func holdCame(t *testing.T, r ring, id int, next ring, ok bool) {
	t.Helper()
	first := impl.NextOf(next, id)
	if !ok || !impl.RingOk(next) || !isHere(next, id) || first == id || !isHere(r, first) {
		t.Fatalf("%d came to %+v: %+v, %v", id, r.Peers, next.Peers, ok)
	}
	if impl.Ideal(r) && first != impl.OwnerOf(impl.HereOf(r), id) {
		t.Fatalf("%d came to %+v, and knows %d", id, r.Peers, first)
	}
}

// In whatever order they come, and go, all know all as it is again when those that are there ask, and the ring is right all the way.
func TestAllOrdersOfComingAndGoing(t *testing.T) {
	late := []int{30, 255, 200, 0}
	for turn, order := range orders(late) {
		for each := range 3 {
			r := newPlainly([]int{10, 80, 150, 220, 30, 255, 200, 0})
			for i, id := range order {
				by := impl.HereOf(r)[(turn+i)%(4+i)]
				next, ok := impl.Joined(r, id, by)
				holdCame(t, r, id, next, ok)
				r = next
				if each == 1 || each == 2 && i%2 == 0 {
					r = mended(t, r)
				}
			}
			r = mended(t, r)
			if len(impl.HereOf(r)) != 8 {
				t.Fatalf("not all came: %+v", r.Peers)
			}
			for i, id := range orders(late)[(turn*7+each)%24] {
				next, ok := impl.Gone(r, id)
				if !ok || !impl.RingOk(next) || isHere(next, id) || impl.PeerAt(next, id) != -1 {
					// One or two may be all that somebody knows: they may go when that has asked.
					r = mended(t, r)
					if next, ok = impl.Gone(r, id); !ok || !impl.RingOk(next) {
						t.Fatalf("%d does not go: %+v", id, r.Peers)
					}
				}
				r = next
				if each == 1 || each == 2 && i%2 == 0 {
					r = mended(t, r)
				}
			}
			if r = mended(t, r); !sameRing(r, newPlainly([]int{10, 80, 150, 220, 30, 255, 200, 0})) {
				t.Fatalf("not as it was: %+v", r.Peers)
			}
		}
	}
}

// Four ids alone settle, and look for their fingers, in every order, from knowing no more than the next one.
func TestAllOrdersOfSettling(t *testing.T) {
	for _, order := range orders([]int{250, 3, 100, 101}) {
		r := row([]int{250, 3, 100, 101})
		for round := 0; !impl.Ideal(r); round++ {
			if round > 8 {
				t.Fatalf("not all know all as it is: %+v", r.Peers)
			}
			for _, id := range order {
				for _, act := range changes[2:] {
					want, _ := act.plain(r, id, -1)
					next, ok := act.change(r, id, -1)
					if !ok || !sameRing(next, want) || !impl.RingOk(next) {
						t.Fatalf("%s(%+v, %d) = %+v, %v", act.name, r.Peers, id, next.Peers, ok)
					}
					r = next
				}
			}
		}
		if !idealPlainly(r) {
			t.Fatalf("plainly not ideal: %+v", r.Peers)
		}
	}
}

// The ring stays right whatever is drawn, and is mended when it is left alone.
func TestDrawnComingAndGoing(t *testing.T) {
	d := dice(111)
	did := map[string]int{}
	for turn := range 60 {
		var ids []int
		for len(ids) < 4+turn%5 {
			if id := []int{d.below(256), (250 + d.below(12)) % 256}[d.below(2)]; !slices.Contains(ids, id) {
				ids = append(ids, id)
			}
		}
		r := impl.RingNew(ids)
		for range 80 {
			act, id, by := changes[d.below(4)], ids[d.below(len(ids))], ids[d.below(len(ids))]
			want, wantOk := act.plain(r, id, by)
			next, ok := act.change(r, id, by)
			if ok != wantOk || !sameRing(next, want) {
				t.Fatalf("%s(%+v, %d, %d) = %+v, %v; want %+v, %v", act.name, r.Peers, id, by, next.Peers, ok, want.Peers, wantOk)
			}
			if !impl.RingOk(next) || !ringRight(next) || !ok && !sameRing(next, r) || impl.Ideal(next) != idealPlainly(next) {
				t.Fatalf("%s(%+v, %d, %d) = %+v, %v", act.name, r.Peers, id, by, next.Peers, ok)
			}
			if ok {
				did[act.name]++
				if act.name == "Joined" {
					holdCame(t, r, id, next, ok)
				}
			}
			r = next
		}
		mended(t, r)
	}
	for _, act := range changes {
		if did[act.name] < 80 {
			t.Errorf("%s was done %d times", act.name, did[act.name])
		}
	}
}

// Rings that are not right: the same Id more than once, Here and not, Ids off the ring, and those that know whom there is not.
func TestChangesOfThrownRings(t *testing.T) {
	d := dice(112)
	did := map[string]int{}
	for i := range 1500 {
		r := thrownRing(&d)
		if i%2 > 0 {
			nameMinusOne(&r)
		}
		for _, act := range changes {
			for range 4 {
				id, by := 20*(d.below(12)-1), 20*(d.below(12)-1)
				if i%2 > 0 {
					id, by = max(id, -1), max(by, -1)
				}
				want, ok := act.plain(r, id, by)
				holdChange(t, act, r, id, by, want, ok)
				if ok {
					did[act.name]++
				}
			}
		}
		if impl.Ideal(r) != idealPlainly(r) {
			t.Fatalf("Ideal(%+v) = %v", r.Peers, impl.Ideal(r))
		}
		if t.Failed() {
			t.FailNow()
		}
	}
	for _, act := range changes {
		if did[act.name] < 200 {
			t.Errorf("%s was done %d times", act.name, did[act.name])
		}
	}
}

func TestChangesOfThrownWays(t *testing.T) {
	d := dice(113)
	for range 150 {
		r := thrownWays(&d)
		for _, act := range changes {
			id, by := r.Peers[d.below(len(r.Peers))].Id, r.Peers[d.below(len(r.Peers))].Id
			want, ok := act.plain(r, id, by)
			holdChange(t, act, r, id, by, want, ok)
		}
	}
}

// rings that are changed, and that are left as they are, each with who changes and who is asked.
func changing(t *testing.T) []struct {
	r  ring
	id int
} {
	came := come(t, ringOf(6), 30)
	kept := with(came, 1, came.Peers[1])
	kept.Peers[1].Shelves, kept.Peers[4].Shelves = rightPeer().Shelves, manyShelves(3)
	odd := with(kept, 5, rightPeer())
	odd.Peers[5].Id, odd.Peers[5].Here = 40, false
	return []struct {
		r  ring
		id int
	}{{ringOf(4), 10}, {came, 30}, {came, 40}, {kept, 30}, {kept, 40}, {kept, 10}, {kept, 99}, {odd, 40}, {odd, 80}, {ring{}, 10}}
}

func TestRingsAreLeftAsTheyAreChanged(t *testing.T) {
	for _, c := range changing(t) {
		for _, act := range changes {
			r := ringWithRoom(c.r)
			first, _ := act.change(r, c.id, 10)
			second, _ := act.change(r, c.id, 10)
			impl.Ideal(r)
			if !ringUntouched(r, c.r) {
				t.Fatalf("%s writes into the ring: %+v", act.name, r.Peers)
			}
			was := copiedRing(second)
			spoilRing(&first)
			if !ringUntouched(r, c.r) {
				t.Fatalf("%s gives room that is another's: %+v", act.name, r.Peers)
			}
			if !sameRing(second, was) {
				t.Fatalf("two answers of %s share memory: %+v", act.name, second.Peers)
			}
			third, _ := act.change(r, c.id, 10)
			spoilRing(&r)
			if !sameRing(second, was) || !sameRing(third, was) {
				t.Fatalf("%s keeps the ring: %+v", act.name, third.Peers)
			}
			listsApart(t, third, act.name)
		}
	}
}

// An answer hangs neither on the one before it nor on those that are asked for at the same time.
func TestManyChangeAtOnce(t *testing.T) {
	d := dice(114)
	var rings []ring
	for range 20 {
		rings = append(rings, thrownRing(&d))
	}
	var group sync.WaitGroup
	for by := range 8 {
		group.Go(func() {
			for i := range rings {
				r, id := rings[(i+by)%20], 20*(i%8)
				for _, act := range changes {
					got, ok := act.change(r, id, 20*(by%4))
					if want, wantOk := act.plain(r, id, 20*(by%4)); ok != wantOk || !sameRing(got, want) {
						t.Errorf("another answer of %s of %+v for %d", act.name, r.Peers, id)
					}
				}
				if impl.Ideal(r) != idealPlainly(r) {
					t.Errorf("another answer of Ideal of %+v", r.Peers)
				}
			}
		})
	}
	group.Wait()
}

// Many peers are no more than a while's work.
func TestChangesOfMany(t *testing.T) {
	const many = 200000
	peers := make([]peer, many)
	for i := range many {
		peers[i] = peer{Id: i, Here: i != 70, Ahead: -1, Behind: []int{(i + 1) % many, (i + 2) % many}}
	}
	r := ring{Peers: peers}
	if next, ok := impl.Joined(r, 70, 60); !ok || !samePeer(next.Peers[70], knowingOnly(70, 71, 72, 73)) {
		t.Errorf("came to many: %+v, %v", next.Peers[70], ok)
	}
	if next, ok := impl.Gone(r, 80); !ok || !samePeer(next.Peers[80], peer{Id: 80}) {
		t.Errorf("went from many: %+v, %v", next.Peers[80], ok)
	}
	if _, ok := impl.Gone(r, 71); ok {
		t.Error("went from many, and somebody knows nobody")
	}
	if next, ok := impl.Settle(r, 69); !ok || !slices.Equal(next.Peers[69].Behind, []int{71, 72, 73}) || next.Peers[71].Ahead != 69 {
		t.Errorf("settled among many: %+v, %v", next.Peers[69], ok)
	}
	if next, ok := impl.Fingered(r, 20); !ok || !slices.Equal(next.Peers[20].Fingers, []int{21, 22, 24, 28, 36, 52, 84, 148}) {
		t.Errorf("fingers among many: %+v, %v", next.Peers[20], ok)
	}
	if impl.Ideal(r) {
		t.Error("many know all as it is")
	}
}
