package tests

import (
	"math"
	"runtime"
	"slices"
	"sync"
	"testing"
	"time"

	"loop.example/g00474/impl"
)

type step = impl.Step

// stepBy is the step that this word, and these places, tell of who.
func stepBy(c word, who int, from ...int) step {
	return step{Cred: c, Fact: fact{Of: c.Of, Who: who}, From: from}
}

func copiedSteps(steps []step) []step {
	var list []step
	for _, s := range steps {
		list = append(list, step{Cred: s.Cred, Fact: s.Fact, From: slices.Clone(s.From)})
	}
	return list
}

func sameStep(a step, b step) bool {
	return a.Cred == b.Cred && a.Fact == b.Fact && slices.Equal(a.From, b.From)
}

func sameSteps(t *testing.T, got []step, want []step, of ...any) {
	t.Helper()
	if !slices.EqualFunc(got, want, sameStep) {
		t.Errorf("steps %+v; want %+v; of %+v", got, want, of)
	}
}

// stepPlainly goes by how many places there are, and asks each of them on its own.
func stepPlainly(steps []step, i int) bool {
	if !within(i, 0, len(steps)-1) {
		return false
	}
	c, f, from := steps[i].Cred, steps[i].Fact, steps[i].From
	if !rightPlainly(c) || f.Of != c.Of {
		return false
	}
	for _, at := range from {
		if !within(at, 0, i-1) {
			return false
		}
	}
	shows := func(n int, of role, who int) bool { return steps[from[n]].Fact == fact{Of: of, Who: who} }
	switch {
	case len(from) == 0:
		return c.Kind == 1 && c.Who == f.Who
	case len(from) == 1:
		return c.Kind == 2 && shows(0, c.A, f.Who)
	case len(from) == 2 && c.Kind == 3:
		x := steps[from[0]].Fact.Who
		return shows(0, c.A, x) && shows(1, role{Who: x, Name: c.B.Name}, f.Who)
	case len(from) == 2 && c.Kind == 4:
		return shows(0, c.A, f.Who) && shows(1, c.B, f.Who)
	}
	return false
}

func provedPlainly(steps []step, r role, who int) bool {
	for i := range steps {
		if !stepPlainly(steps, i) {
			return false
		}
	}
	return within(len(steps), 1, 200) && steps[len(steps)-1].Fact == fact{Of: r, Who: who}
}

// stepsPlainly tries all places, and all pairs of places, of what was there ahead of a word, in their order.
func stepsPlainly(list []word) []step {
	var steps []step
	for {
		before := len(steps)
		for _, c := range list {
			if rightPlainly(c) {
				steps = toldPlainly(steps, c)
			}
		}
		if len(steps) == before {
			return steps
		}
	}
}

func toldPlainly(steps []step, c word) []step {
	all := slices.Clone(steps)
	tell := func(who int, from ...int) {
		next := stepBy(c, who, from...)
		if !slices.ContainsFunc(all, func(s step) bool { return s.Fact == next.Fact }) {
			all = append(all, next)
		}
	}
	if c.Kind == 1 {
		tell(c.Who)
	}
	for i := range steps {
		one := steps[i].Fact
		if one.Of != c.A {
			continue
		}
		if c.Kind == 2 {
			tell(one.Who, i)
		}
		for j := range steps {
			other := steps[j].Fact
			if c.Kind == 3 && other.Of == (role{Who: one.Who, Name: c.B.Name}) || c.Kind == 4 && other.Of == c.B && other.Who == one.Who {
				tell(other.Who, i, j)
			}
		}
	}
	return all
}

// ledPlainly asks from the end on for all that is named, and sorts their places.
func ledPlainly(steps []step, last int) []step {
	var needed []int
	var need func(i int)
	need = func(i int) {
		if slices.Contains(needed, i) {
			return
		}
		needed = append(needed, i)
		for _, at := range steps[i].From {
			need(at)
		}
	}
	need(last)
	slices.Sort(needed)
	var list []step
	for _, i := range needed {
		s := step{Cred: steps[i].Cred, Fact: steps[i].Fact}
		for _, at := range steps[i].From {
			s.From = append(s.From, slices.Index(needed, at))
		}
		list = append(list, s)
	}
	return list
}

// shownSteps has each kind, and each of what it leans on once alone; X of the link is 3.
func shownSteps() []step {
	of3 := role{Who: 3, Name: 2}
	return []step{
		stepBy(memberWord(guests, 3), 3),
		stepBy(memberWord(of3, 4), 4),
		stepBy(fromWord(friends, guests), 3, 0),
		stepBy(linkWord(clerks, friends, 2), 4, 2, 1),
		stepBy(bothWord(judges, clerks, of3), 4, 3, 1),
		stepBy(memberWord(judges, 0), 0),
	}
}

func TestStepsByHand(t *testing.T) {
	steps := shownSteps()
	for i := range steps {
		if !impl.StepOk(steps, i) {
			t.Errorf("step %d of %+v", i, steps)
		}
		if !impl.StepOk(steps[:i+1], i) {
			t.Errorf("step %d hangs on one behind it", i)
		}
	}
	for _, i := range append([]int{-1, -2, 6, 7, 8}, farNumbers...) {
		if impl.StepOk(steps, i) || impl.StepOk(steps[:1], i) || impl.StepOk(nil, i) {
			t.Errorf("step %d, which is none", i)
		}
	}
	if impl.StepOk(nil, 0) || impl.StepOk([]step{}, 0) || impl.StepOk(steps[:3], 3) {
		t.Error("a step past the end")
	}
}

// Of all that From may be, up to three places and some that are none, just one is right.
func TestFromIsJustTheseInThisOrder(t *testing.T) {
	steps := shownSteps()
	for i := range steps {
		right := steps[i].From
		hold := func(from ...int) {
			steps[i].From = from
			if want := slices.Equal(from, right); impl.StepOk(steps, i) != want {
				t.Errorf("step %d from %v: %v; want it from %v", i, from, !want, right)
			}
		}
		hold()
		for a := -2; a <= len(steps)+1; a++ {
			hold(a)
			for b := -2; b <= len(steps)+1; b++ {
				hold(a, b)
				for c := -2; c <= len(steps)+1; c++ {
					hold(a, b, c)
				}
			}
		}
		for _, far := range farNumbers {
			if len(right) > 0 {
				hold(append([]int{far}, right[1:]...)...)
				hold(append(slices.Clone(right[:len(right)-1]), far)...)
			}
			hold(append(slices.Clone(right), far)...)
			hold(append([]int{far}, right...)...)
		}
		hold(make([]int, 1000)...)
		steps[i].From = right
	}
}

func TestFactsOfStepsAreThoseOfTheirWords(t *testing.T) {
	steps := shownSteps()
	people := append([]int{-1, 0, 1, 2, 3, 4, 5, 6}, farNumbers...)
	for i := range steps {
		right := steps[i].Fact
		for _, r := range append(allRoles(), wrongRoles()...) {
			for _, who := range people {
				f := fact{Of: r, Who: who}
				steps[i].Fact = f
				if want := f == right; impl.StepOk(steps, i) != want {
					t.Errorf("step %d shows %+v: %v; its word is %+v", i, f, !want, steps[i].Cred)
				}
			}
		}
		steps[i].Fact = right
	}
}

// What is turned in a word is right again in another number, or tells of others; its day and its nonce tell nothing.
func TestStepsOfOtherWords(t *testing.T) {
	steps := shownSteps()
	for i := range steps {
		whole := steps[i].Cred
		for _, c := range wrongWordsOf(whole) {
			steps[i].Cred = c
			if impl.StepOk(steps, i) {
				t.Errorf("step %d by %+v", i, c)
			}
		}
		for _, c := range append(kindWords(), word{}) {
			steps[i].Cred = c
			if impl.StepOk(steps, i) != stepPlainly(steps, i) {
				t.Errorf("step %d by %+v: %v", i, c, impl.StepOk(steps, i))
			}
		}
		for _, until := range rightUntils {
			for _, nonce := range rightNonces {
				steps[i].Cred = whole
				steps[i].Cred.Until, steps[i].Cred.Nonce = until, nonce
				if !impl.StepOk(steps, i) {
					t.Errorf("step %d by %+v", i, steps[i].Cred)
				}
			}
		}
		for n, max := range []int{5, 6, 4, 6, 6, 4, 6, 4} {
			for turned := range max {
				steps[i].Cred = whole
				*places(&steps[i].Cred)[n] = turned
				if impl.StepOk(steps, i) != stepPlainly(steps, i) {
					t.Errorf("step %d by %+v: %v", i, steps[i].Cred, impl.StepOk(steps, i))
				}
			}
		}
		steps[i].Cred = whole
	}
}

// The same fact is shown ahead, by the step itself, and behind it.
func TestStepsThatNameThemselvesOrOneBehind(t *testing.T) {
	self := fromWord(friends, friends)
	steps := []step{stepBy(memberWord(friends, 2), 2), stepBy(self, 2, 0), stepBy(memberWord(friends, 2), 2), stepBy(self, 2, 1)}
	for i := range steps {
		if !impl.StepOk(steps, i) {
			t.Errorf("step %d of a circle of itself", i)
		}
	}
	for at := -1; at <= 4; at++ {
		steps[1].From = []int{at}
		if impl.StepOk(steps, 1) != (at == 0) {
			t.Errorf("step 1 from %d", at)
		}
	}
	alone := []step{stepBy(self, 2, 0)}
	if impl.StepOk(alone, 0) || impl.ProofOk(alone, friends, 2) {
		t.Error("a step from itself")
	}
	round := []step{stepBy(fromWord(friends, guests), 2, 1), stepBy(fromWord(guests, friends), 2, 0)}
	if impl.StepOk(round, 0) || !impl.StepOk(round, 1) || impl.ProofOk(round, guests, 2) {
		t.Error("two steps from each other")
	}
	both := []step{stepBy(bothWord(friends, friends, friends), 2, 0, 0)}
	link := []step{stepBy(linkWord(friends, friends, 1), 0, 0, 0)}
	if impl.StepOk(both, 0) || impl.StepOk(link, 0) {
		t.Error("a step twice from itself")
	}
	// The first place is right, the other one is the step itself.
	steps = []step{stepBy(memberWord(guests, 2), 2), stepBy(bothWord(friends, guests, friends), 2, 0, 1)}
	if impl.StepOk(steps, 1) {
		t.Error("both, one of which is itself")
	}
	steps = []step{stepBy(memberWord(guests, 0), 0), stepBy(linkWord(friends, guests, 1), 4, 0, 1)}
	if impl.StepOk(steps, 1) {
		t.Error("a link to itself")
	}
}

func TestTheSamePlaceTwice(t *testing.T) {
	steps := []step{
		stepBy(memberWord(friends, 0), 0),
		stepBy(memberWord(guests, 0), 0),
		stepBy(memberWord(friends, 0), 0),
		stepBy(bothWord(judges, friends, friends), 0),
	}
	for a := -1; a <= 4; a++ {
		steps[3].From = []int{a}
		if impl.StepOk(steps, 3) {
			t.Errorf("both of one circle, from %d alone", a)
		}
		for b := -1; b <= 4; b++ {
			steps[3].From = []int{a, b}
			want := (a == 0 || a == 2) && (b == 0 || b == 2)
			if impl.StepOk(steps, 3) != want {
				t.Errorf("both of one circle, from %d and %d: %v", a, b, !want)
			}
			// 0 is a friend of 0: the circle A, and that of X, are one.
			steps[3].Cred = linkWord(judges, friends, 1)
			if impl.StepOk(steps, 3) != want {
				t.Errorf("a link through one circle, from %d and %d: %v", a, b, !want)
			}
			steps[3].Cred = bothWord(judges, friends, friends)
		}
	}
}

func TestLinksOfStepsGoByTheOneTheyName(t *testing.T) {
	of := func(who int) role { return role{Who: who, Name: 2} }
	steps := []step{
		stepBy(memberWord(guests, 3), 3), stepBy(memberWord(guests, 5), 5), stepBy(memberWord(friends, 1), 1),
		stepBy(memberWord(of(3), 4), 4), stepBy(memberWord(of(5), 4), 4), stepBy(memberWord(of(1), 4), 4),
		stepBy(memberWord(of(3), 2), 2), stepBy(memberWord(role{Who: 3, Name: 1}, 4), 4),
		stepBy(linkWord(judges, guests, 2), 4),
	}
	for a := -1; a <= len(steps); a++ {
		for b := -1; b <= len(steps); b++ {
			steps[8].From = []int{a, b}
			want := a == 0 && b == 3 || a == 1 && b == 4
			if impl.StepOk(steps, 8) != want {
				t.Errorf("a link from %d and %d: %v", a, b, !want)
			}
		}
	}
}

// A step is held against the facts of those that it names, whether or not these follow themselves; in a proof they must.
func TestStepsHangOnFactsAlone(t *testing.T) {
	for _, far := range append([]int{-1, 6, 2}, farNumbers...) {
		steps := []step{
			{Fact: fact{Of: guests, Who: far}},
			{Fact: fact{Of: role{Who: far, Name: 2}, Who: 4}},
			stepBy(fromWord(friends, guests), far, 0),
			stepBy(linkWord(judges, guests, 2), 4, 0, 1),
			stepBy(bothWord(clerks, guests, friends), far, 0, 2),
		}
		for i := range steps {
			if want := i > 1; impl.StepOk(steps, i) != want {
				t.Errorf("step %d by %d: %v", i, far, !want)
			}
		}
		if impl.ProofOk(steps, clerks, far) || impl.ProofOk(steps[:3], friends, far) {
			t.Errorf("a proof of %d from nothing", far)
		}
	}
}

func TestProofsByHand(t *testing.T) {
	steps := shownSteps()
	for size := 1; size <= len(steps); size++ {
		last := steps[size-1].Fact
		for _, r := range append(allRoles(), edgeRoles()...) {
			for who := -1; who <= 6; who++ {
				want := r == last.Of && who == last.Who
				if impl.ProofOk(steps[:size], r, who) != want {
					t.Errorf("a proof of %d steps that %d is of %+v: %v", size, who, r, !want)
				}
			}
		}
		for _, far := range farNumbers {
			if impl.ProofOk(steps[:size], last.Of, far) || impl.ProofOk(steps[:size], role{Who: far, Name: last.Of.Name}, last.Who) {
				t.Errorf("a proof of %d steps of %d", size, far)
			}
		}
	}
	for _, none := range [][]step{nil, {}, steps[:0]} {
		for _, r := range allRoles() {
			if impl.ProofOk(none, r, 0) || impl.ProofOk(none, role{}, 0) {
				t.Error("a proof of no steps")
			}
		}
	}
	if impl.ProofOk([]step{{}}, role{}, 0) {
		t.Error("a proof of nothing")
	}
}

func TestProofsWithOneStepThatIsWrong(t *testing.T) {
	last := fact{Of: judges, Who: 0}
	for i := range shownSteps() {
		for why, spoil := range map[string]func(s *step){
			"another kind":  func(s *step) { s.Cred.Kind = 5 },
			"a day too far": func(s *step) { s.Cred.Until = 10000 },
			"one more":      func(s *step) { s.From = append(s.From, 0) },
			"itself":        func(s *step) { s.From = []int{i} },
			"nobody":        func(s *step) { s.Fact.Who = 9 },
		} {
			steps := shownSteps()
			spoil(&steps[i])
			if impl.ProofOk(steps, last.Of, last.Who) {
				t.Errorf("a proof whose step %d has %s", i, why)
			}
		}
		steps := slices.Delete(shownSteps(), i, i+1)
		if impl.ProofOk(steps, last.Of, last.Who) != provedPlainly(steps, last.Of, last.Who) {
			t.Errorf("a proof without step %d", i)
		}
	}
}

// A proof may have steps that lead nowhere, and show things twice; only ProofOf leaves them out.
func TestProofsOfManySteps(t *testing.T) {
	chain := []step{stepBy(memberWord(friends, 2), 2)}
	for len(chain) < 203 {
		at := len(chain) - 1
		c := fromWord(guests, friends)
		if chain[at].Fact.Of == guests {
			c = fromWord(friends, guests)
		}
		chain = append(chain, stepBy(c, 2, at))
	}
	var same []step
	for range 203 {
		same = append(same, chain[0])
	}
	for _, size := range []int{1, 2, 199, 200, 201, 202, 203} {
		if want := size <= 200; impl.ProofOk(chain[:size], chain[size-1].Fact.Of, 2) != want || impl.ProofOk(same[:size], friends, 2) != want {
			t.Errorf("a proof of %d steps: %v", size, !want)
		}
		if !impl.StepOk(chain, size-1) {
			t.Errorf("step %d of a row that is too long for a proof", size-1)
		}
	}
	chain[0].From = []int{0}
	if impl.ProofOk(chain[:200], chain[199].Fact.Of, 2) {
		t.Error("a long proof from nothing")
	}
	same[100].Fact.Who = 3
	if impl.ProofOk(same[:200], friends, 2) {
		t.Error("a long proof with a wrong step in it")
	}
}

func TestProofOfByHand(t *testing.T) {
	of3 := role{Who: 3, Name: 2}
	m, n := memberWord(guests, 3), memberWord(of3, 4)
	f := fromWord(friends, guests)
	l := linkWord(clerks, friends, 2)
	b := bothWord(judges, clerks, of3)
	guest, other := stepBy(m, 3), stepBy(n, 4)
	for _, x := range []struct {
		why  string
		list []word
		of   role
		who  int
		want []step
	}{
		{"one word", []word{m}, guests, 3, []step{guest}},
		{"each leans on those ahead", []word{m, n, f, l, b}, judges, 4, []step{guest, other, stepBy(f, 3, 0), stepBy(l, 4, 2, 1), stepBy(b, 4, 3, 1)}},
		{"each leans on those behind", []word{b, l, f, n, m}, judges, 4, []step{other, guest, stepBy(f, 3, 1), stepBy(l, 4, 2, 0), stepBy(b, 4, 3, 0)}},
		{"the second time round", []word{l, m, f, n, b}, judges, 4, []step{guest, stepBy(f, 3, 0), other, stepBy(l, 4, 1, 2), stepBy(b, 4, 3, 2)}},
		{"no more than leads to it", []word{m, n, f, l, b}, friends, 3, []step{guest, stepBy(f, 3, 0)}},
		{"the one without the other", []word{n, m, f, l, b}, friends, 3, []step{guest, stepBy(f, 3, 0)}},
		{"up to it alone", []word{m, n, f, l, b}, of3, 4, []step{other}},
		{"a link, and nothing behind it", []word{b, l, f, n, m}, clerks, 4, []step{other, guest, stepBy(f, 3, 1), stepBy(l, 4, 2, 0)}},
		{"somebody between who leads nowhere", []word{memberWord(guests, 0), m, memberWord(friends, 5), f}, friends, 3, []step{guest, stepBy(f, 3, 0)}},
		{"each twice", []word{f, f, m, m}, friends, 3, []step{guest, stepBy(f, 3, 0)}},
	} {
		got, ok := impl.ProofOf(x.list, x.of, x.who)
		if !ok || !impl.ProofOk(got, x.of, x.who) {
			t.Errorf("%s: %+v, %v", x.why, got, ok)
		}
		sameSteps(t, got, x.want, x.why)
	}
}

// The first one that could tell is taken, not the first of the list, nor the one with the least proof.
func TestEachFactByTheFirstWord(t *testing.T) {
	m, direct := memberWord(guests, 3), memberWord(friends, 3)
	f := fromWord(friends, guests)
	other := f
	other.Nonce = 1
	for _, x := range []struct {
		why  string
		list []word
		want []step
	}{
		{"the longer way comes first", []word{m, f, direct}, []step{stepBy(m, 3), stepBy(f, 3, 0)}},
		{"the other way round", []word{m, direct, f}, []step{stepBy(direct, 3)}},
		{"the first has nothing to lean on yet", []word{f, direct, m}, []step{stepBy(direct, 3)}},
		{"neither has, the first time", []word{other, f, m}, []step{stepBy(m, 3), stepBy(other, 3, 0)}},
		{"one has, the first time", []word{other, m, f}, []step{stepBy(m, 3), stepBy(f, 3, 0)}},
		{"two that are alike but for a nonce", []word{m, other, f}, []step{stepBy(m, 3), stepBy(other, 3, 0)}},
	} {
		got, ok := impl.ProofOf(x.list, friends, 3)
		sameSteps(t, got, x.want, x.why, ok)
	}
}

func TestEachFactByTheFirstFacts(t *testing.T) {
	of := func(who int) role { return role{Who: who, Name: 2} }
	five, three := memberWord(guests, 5), memberWord(guests, 3)
	by5, by3 := memberWord(of(5), 4), memberWord(of(3), 4)
	l := linkWord(judges, guests, 2)
	for _, x := range []struct {
		why  string
		list []word
		want []step
	}{
		{"5 stands first", []word{five, three, by3, by5, l}, []step{stepBy(five, 5), stepBy(by5, 4), stepBy(l, 4, 0, 1)}},
		{"3 stands first", []word{three, five, by5, by3, l}, []step{stepBy(three, 3), stepBy(by3, 4), stepBy(l, 4, 0, 1)}},
		{"the circle ahead of who has it", []word{by3, by5, five, three, l}, []step{stepBy(by5, 4), stepBy(five, 5), stepBy(l, 4, 1, 0)}},
		{"5 has no circle", []word{five, three, by3, l}, []step{stepBy(three, 3), stepBy(by3, 4), stepBy(l, 4, 0, 1)}},
		{"5 has one too late", []word{five, three, by3, l, by5}, []step{stepBy(three, 3), stepBy(by3, 4), stepBy(l, 4, 0, 1)}},
		{"5 comes too late", []word{by5, three, by3, l, five}, []step{stepBy(three, 3), stepBy(by3, 4), stepBy(l, 4, 0, 1)}},
		{"all come at once, for the second time", []word{l, by3, by5, five, three}, []step{stepBy(by5, 4), stepBy(five, 5), stepBy(l, 4, 1, 0)}},
	} {
		got, ok := impl.ProofOf(x.list, judges, 4)
		sameSteps(t, got, x.want, x.why, ok)
	}
}

// A link through the circle that it tells of leans on what was there ahead of it, never on what it just told.
func TestProofsThroughTheirOwnCircle(t *testing.T) {
	of := func(who int) role { return role{Who: who, Name: 1} }
	grow := linkWord(friends, friends, 1)
	two, four, five := memberWord(friends, 2), memberWord(of(2), 4), memberWord(of(4), 5)
	got, _ := impl.ProofOf([]word{grow, five, four, two}, friends, 5)
	sameSteps(t, got, []step{
		stepBy(five, 5), stepBy(four, 4), stepBy(two, 2),
		stepBy(grow, 4, 2, 1), stepBy(grow, 5, 3, 0),
	})
	// 0, who is of its own circle, stands first: what the link tells there would be shown by itself.
	zero, three, one := memberWord(friends, 0), memberWord(friends, 3), memberWord(of(3), 1)
	got, _ = impl.ProofOf([]word{zero, three, one, grow}, friends, 1)
	sameSteps(t, got, []step{stepBy(three, 3), stepBy(one, 1), stepBy(grow, 1, 0, 1)})
	// The circle of 2 is the one that the word tells of, and 2 stands ahead of 3 in A.
	into := linkWord(of(2), friends, 1)
	got, _ = impl.ProofOf([]word{into, two, three, one, memberWord(of(3), 5)}, of(2), 5)
	sameSteps(t, got, []step{stepBy(three, 3), stepBy(memberWord(of(3), 5), 5), stepBy(into, 5, 0, 1)})
	self := fromWord(friends, friends)
	got, _ = impl.ProofOf([]word{self, two, self}, friends, 2)
	sameSteps(t, got, []step{stepBy(two, 2)})
	both := bothWord(judges, friends, friends)
	got, _ = impl.ProofOf([]word{both, two}, judges, 2)
	sameSteps(t, got, []step{stepBy(two, 2), stepBy(both, 2, 0, 0)})
	link := linkWord(judges, friends, 1)
	got, _ = impl.ProofOf([]word{zero, link}, judges, 0)
	sameSteps(t, got, []step{stepBy(zero, 0), stepBy(link, 0, 0, 0)})
	for _, list := range [][]word{{grow}, {into}, {self}, {bothWord(friends, friends, friends)}, {fromWord(friends, guests), fromWord(guests, friends)}} {
		noProofs(t, list)
	}
}

func noProofs(t *testing.T, list []word) {
	t.Helper()
	for _, r := range append(allRoles(), edgeRoles()...) {
		for who := -1; who <= 6; who++ {
			if got, ok := impl.ProofOf(list, r, who); ok || len(got) != 0 {
				t.Errorf("%d is of %+v by %+v: %+v, %v", who, r, list, got, ok)
			}
		}
	}
}

func TestNoProofsFromNothing(t *testing.T) {
	for _, list := range [][]word{nil, {}, {{}}, {{}, {Kind: 5, Until: 1}}} {
		noProofs(t, list)
	}
	for _, whole := range kindWords()[:4] {
		for i, c := range wrongWordsOf(whole) {
			if _, ok := impl.ProofOf([]word{c}, c.Of, c.Who); ok {
				t.Errorf("a proof by %+v", c)
			}
			if i%29 == 0 {
				noProofs(t, []word{c})
			}
		}
	}
}

func TestProofsPastWordsThatAreNotRight(t *testing.T) {
	right := []word{bothWord(judges, guests, friends), fromWord(friends, guests), memberWord(guests, 4), memberWord(guests, 2), linkWord(clerks, guests, 0)}
	want, ok := impl.ProofOf(right, judges, 2)
	if !ok || len(want) != 3 {
		t.Fatalf("%+v, %v", want, ok)
	}
	for _, whole := range append(kindWords(), memberWord(judges, 2), fromWord(judges, guests), memberWord(friends, 2)) {
		for i, c := range wrongWordsOf(whole) {
			at := i % (len(right) + 1)
			got, ok := impl.ProofOf(slices.Insert(slices.Clone(right), at, c), judges, 2)
			if !ok {
				t.Errorf("no proof past %+v", c)
			}
			sameSteps(t, got, want, c)
		}
	}
}

// Everybody is of every circle, so that just those stay without a proof who are not right.
func TestNoProofsOfThoseWhoAreNotRight(t *testing.T) {
	var list []word
	for _, r := range allRoles() {
		for who := range impl.People {
			list = append(list, memberWord(r, who))
		}
	}
	for _, c := range list {
		got, ok := impl.ProofOf(list, c.Of, c.Who)
		sameSteps(t, got, []step{stepBy(c, c.Who)}, ok)
	}
	for _, r := range allRoles() {
		for _, who := range append([]int{-1, 6, 7}, farNumbers...) {
			if got, ok := impl.ProofOf(list, r, who); ok || len(got) != 0 {
				t.Errorf("%d is of %+v: %+v", who, r, got)
			}
		}
	}
	for _, r := range wrongRoles() {
		for who := range impl.People {
			if got, ok := impl.ProofOf(list, r, who); ok || len(got) != 0 {
				t.Errorf("%d is of %+v: %+v", who, r, got)
			}
		}
	}
}

// Proofs are held against a way by lists; and, without it, against what FactsOf, IsMember and ProofOk say.
func TestProofsOfThrownWords(t *testing.T) {
	d := dice(71)
	longest, links := 0, 0
	for i := range 400 {
		list := thrownWords(&d, i%40)
		all, facts := stepsPlainly(list), impl.FactsOf(list)
		for _, r := range allRoles() {
			for who := -1; who <= impl.People; who++ {
				got, ok := impl.ProofOf(list, r, who)
				last := slices.Index(facts, fact{Of: r, Who: who})
				if ok != (last >= 0) || ok != impl.IsMember(list, r, who) {
					t.Fatalf("a proof that %d is of %+v: %v; by %+v", who, r, ok, list)
				}
				if !ok {
					if len(got) != 0 {
						t.Fatalf("false, and %+v", got)
					}
					continue
				}
				if want := ledPlainly(all, last); !slices.EqualFunc(got, want, sameStep) {
					t.Fatalf("steps %+v; want %+v; by %+v", got, want, list)
				}
				holdProof(t, list, facts, got, fact{Of: r, Who: who})
				longest = max(longest, len(got))
				if got[len(got)-1].Cred.Kind == impl.CrLink {
					links++
				}
			}
		}
	}
	if longest < 12 || links < 100 {
		t.Errorf("no proof has more than %d steps, and %d end with a link", longest, links)
	}
}

func holdProof(t *testing.T, list []word, facts []fact, steps []step, last fact) {
	t.Helper()
	if !impl.ProofOk(steps, last.Of, last.Who) || !provedPlainly(steps, last.Of, last.Who) {
		t.Fatalf("no proof of %+v: %+v", last, steps)
	}
	named := make([]bool, len(steps))
	named[len(steps)-1] = true
	before := -1
	for _, s := range steps {
		at := slices.Index(facts, s.Fact)
		if at <= before || !slices.Contains(list, s.Cred) {
			t.Fatalf("%+v is not found by these words, or not in this order", s)
		}
		before = at
		for _, place := range s.From {
			named[place] = true
		}
	}
	if slices.Contains(named, false) {
		t.Fatalf("a step that nobody names: %+v", steps)
	}
	if before != slices.Index(facts, last) {
		t.Fatalf("the end is not %+v: %+v", last, steps)
	}
}

// Of the words of a proof alone, in their order there, there is a proof too; it may be another.
func TestWordsOfAProofAreEnough(t *testing.T) {
	d := dice(72)
	for range 150 {
		list := thrownWords(&d, 30)
		for _, f := range impl.FactsOf(list) {
			steps, _ := impl.ProofOf(list, f.Of, f.Who)
			words := impl.CredsIn(steps)
			if !impl.IsMember(words, f.Of, f.Who) {
				t.Fatalf("%+v does not follow from %+v", f, words)
			}
			again, ok := impl.ProofOf(words, f.Of, f.Who)
			if !ok || !impl.ProofOk(again, f.Of, f.Who) {
				t.Fatalf("no proof of %+v any more: %+v", f, again)
			}
		}
	}
}

// thrownSteps are proofs in which a few numbers are thrown anew, so that some are proofs still and most are none.
func thrownSteps(d *dice) []step {
	var steps []step
	for _, s := range stepsPlainly(thrownWords(d, 20)) {
		if d.below(12) > 0 {
			steps = append(steps, s)
		}
	}
	for range d.below(3) {
		if len(steps) == 0 {
			return nil
		}
		s := &steps[d.below(len(steps))]
		switch d.below(4) {
		case 0:
			s.Fact.Who = d.below(8) - 1
		case 1:
			*places(&s.Cred)[d.below(9)] = d.below(7) - 1
		case 2:
			s.From = append(s.From, d.below(len(steps)+2)-1)
		case 3:
			if len(s.From) > 0 {
				s.From[d.below(len(s.From))] = d.below(len(steps)+2) - 1
			}
		}
	}
	return steps
}

func TestWhatIsProvedIsSo(t *testing.T) {
	d := dice(73)
	proved, refused := 0, 0
	for range 4000 {
		steps := thrownSteps(&d)
		for i := -1; i <= len(steps); i++ {
			if impl.StepOk(steps, i) != stepPlainly(steps, i) {
				t.Fatalf("step %d of %+v: %v", i, steps, impl.StepOk(steps, i))
			}
		}
		for size := 1; size <= len(steps); size++ {
			f := steps[size-1].Fact
			ok := impl.ProofOk(steps[:size], f.Of, f.Who)
			if ok != provedPlainly(steps[:size], f.Of, f.Who) {
				t.Fatalf("a proof: %v; %+v", ok, steps[:size])
			}
			if ok && !impl.IsMember(impl.CredsIn(steps[:size]), f.Of, f.Who) {
				t.Fatalf("proved, but not so: %+v by %+v", f, steps[:size])
			}
			if impl.ProofOk(steps[:size], f.Of, f.Who+1) {
				t.Fatalf("a proof of another: %+v", steps[:size])
			}
			if ok {
				proved++
			} else {
				refused++
			}
		}
	}
	if proved < 1000 || refused < 1000 {
		t.Errorf("%d are proofs, %d are none", proved, refused)
	}
}

// A chain through all circles, against the order of its words.
func TestProofsOfALongWay(t *testing.T) {
	roles := allRoles()
	var list []word
	for i := range len(roles) - 1 {
		list = append(list, fromWord(roles[i], roles[i+1]))
	}
	for who := range impl.People {
		list = append(list, memberWord(roles[23], who))
	}
	for who := range impl.People {
		want := []step{stepBy(memberWord(roles[23], who), who)}
		for i := 22; i >= 0; i-- {
			want = append(want, stepBy(list[i], who, len(want)-1))
			got, ok := impl.ProofOf(list, roles[i], who)
			sameSteps(t, got, want, ok)
		}
	}
}

func TestWordsInSteps(t *testing.T) {
	a, b, c := memberWord(friends, 1), fromWord(guests, friends), linkWord(judges, friends, 0)
	near := a
	near.Nonce = 1
	for _, x := range []struct {
		words []word
		want  []word
	}{
		{nil, nil},
		{[]word{a}, []word{a}},
		{[]word{c, a, b}, []word{c, a, b}},
		{[]word{a, a}, []word{a}},
		{[]word{b, a, b, c, a, c, b}, []word{b, a, c}},
		{[]word{a, near, a, near}, []word{a, near}},
		{[]word{{}, a, {}}, []word{{}, a}},
		{[]word{{Kind: 9}, {Kind: 9}, {Kind: 9, Nonce: -1}}, []word{{Kind: 9}, {Kind: 9, Nonce: -1}}},
	} {
		var steps []step
		for i, w := range x.words {
			// Whether they are right, and what they show, is not asked.
			steps = append(steps, step{Cred: w, Fact: fact{Who: i}, From: []int{i, -1}})
		}
		if got := impl.CredsIn(steps); !slices.Equal(got, x.want) {
			t.Errorf("CredsIn %+v = %+v", x.words, got)
		}
	}
	if got := impl.CredsIn([]step{}); len(got) != 0 {
		t.Errorf("CredsIn nothing = %+v", got)
	}
}

func TestWordsInThrownSteps(t *testing.T) {
	d := dice(74)
	for i := range 400 {
		var steps []step
		words := thrownWords(&d, 1+i%12)
		for range i % 50 {
			steps = append(steps, step{Cred: words[d.below(len(words))]})
		}
		var want []word
		for _, s := range steps {
			if !slices.Contains(want, s.Cred) {
				want = append(want, s.Cred)
			}
		}
		if got := impl.CredsIn(steps); !slices.Equal(got, want) {
			t.Fatalf("CredsIn %+v = %+v", steps, got)
		}
	}
	// Words that are apart in one number alone are apart.
	for _, whole := range kindWords() {
		for i := range places(&whole) {
			c := whole
			*places(&c)[i]++
			if got := impl.CredsIn([]step{{Cred: whole}, {Cred: c}}); len(got) != 2 {
				t.Errorf("CredsIn %+v and %+v = %+v", whole, c, got)
			}
		}
	}
}

func TestStepsAndWordsAreLeftAsTheyAre(t *testing.T) {
	d := dice(75)
	mark := memberWord(judges, 5)
	for i := range 60 {
		was := thrownWords(&d, i)
		list := withRoom(was, mark)
		for _, r := range allRoles() {
			impl.ProofOf(list, r, i%6)
		}
		if !untouched(list, was, mark) {
			t.Fatalf("the words were written into: %+v", list)
		}
		steps := stepsWithRoom(thrownSteps(&d))
		were := copiedSteps(steps)
		for i := -1; i <= len(steps); i++ {
			impl.StepOk(steps, i)
			impl.ProofOk(steps[:max(0, i)], friends, 1)
		}
		impl.CredsIn(steps)
		if !stepsUntouched(steps, were) {
			t.Fatalf("the steps were written into: %+v", steps)
		}
	}
}

// stepsWithRoom has marks behind the steps, and behind each From.
func stepsWithRoom(steps []step) []step {
	long := copiedSteps(steps)
	for i := range long {
		long[i].From = withRoom(long[i].From, -77)
	}
	for range 9 {
		long = append(long, step{Cred: word{Kind: 77}})
	}
	return long[:len(steps)]
}

func stepsUntouched(steps []step, were []step) bool {
	if !slices.EqualFunc(steps, were, sameStep) {
		return false
	}
	for i, s := range steps {
		if !untouched(s.From, were[i].From, -77) {
			return false
		}
	}
	for _, s := range steps[len(steps) : len(steps)+9] {
		if !sameStep(s, step{Cred: word{Kind: 77}}) {
			return false
		}
	}
	return true
}

func TestProofsAreNewMemory(t *testing.T) {
	of3 := role{Who: 3, Name: 2}
	list := []word{memberWord(guests, 3), memberWord(of3, 4), fromWord(friends, guests), linkWord(clerks, friends, 2), bothWord(judges, clerks, of3)}
	want := shownSteps()[:5]
	first, _ := impl.ProofOf(list, judges, 4)
	second, _ := impl.ProofOf(list, judges, 4)
	words := impl.CredsIn(first)
	for i := range list {
		list[i] = word{}
	}
	sameSteps(t, first, want, "the words were changed")
	// Each From is changed, and what could stand behind it; the others must stay.
	for i := range first {
		others := copiedSteps(first)
		for n := range first[i].From {
			first[i].From[n] = 77
		}
		room := first[i].From
		for range 9 {
			room = append(room, 77)
		}
		others[i].From = first[i].From
		sameSteps(t, first, others, "a From was changed", i)
	}
	for i := range first {
		first[i] = step{}
	}
	sameSteps(t, second, want, "another answer was changed")
	if !slices.Equal(words, impl.CredsIn(second)) {
		t.Errorf("the words of a proof that was changed: %+v", words)
	}
	room := stepsWithRoom(second)
	keepsApart(t, impl.CredsIn(room), impl.CredsIn(room), word{Kind: 77}, "two answers of CredsIn")
	if !stepsUntouched(room, second) {
		t.Error("CredsIn and its steps share memory")
	}
}

// The last step of a greater proof, and those ahead, have no From in common.
func TestFromsOfOneProofShareNothing(t *testing.T) {
	d := dice(76)
	for range 60 {
		list := thrownWords(&d, 30)
		for _, f := range impl.FactsOf(list) {
			got, _ := impl.ProofOf(list, f.Of, f.Who)
			want := copiedSteps(got)
			for i := range got {
				_ = append(got[i].From, 77, 77, 77)
				for n := range got[i].From {
					got[i].From[n] += 100
					want[i].From[n] += 100
				}
				if !slices.EqualFunc(got, want, sameStep) {
					t.Fatalf("two lists of one proof share memory: %+v", got)
				}
			}
		}
	}
}

// Nobody who sends is left behind, whether there is a proof, at the first step or the last, or none.
func TestNobodyIsLeftWaiting(t *testing.T) {
	d := dice(77)
	list := thrownWords(&d, 40)
	before := runtime.NumGoroutine()
	for range 20 {
		for _, r := range append(allRoles(), wrongRoles()...) {
			impl.ProofOf(list, r, 1)
			impl.ProofOf(nil, r, 1)
		}
	}
	for range 1000 {
		if runtime.NumGoroutine() <= before {
			return
		}
		time.Sleep(time.Millisecond)
	}
	t.Errorf("%d go on; there were %d", runtime.NumGoroutine(), before)
}

func TestManyAskForProofsAtOnce(t *testing.T) {
	d := dice(78)
	list := thrownWords(&d, 40)
	facts := impl.FactsOf(list)
	if len(facts) < 10 {
		t.Fatalf("%d facts", len(facts))
	}
	all := stepsPlainly(list)
	var group sync.WaitGroup
	for range 8 {
		group.Go(func() {
			for i, f := range facts {
				got, ok := impl.ProofOf(list, f.Of, f.Who)
				if !ok || !slices.EqualFunc(got, ledPlainly(all, i), sameStep) {
					t.Errorf("another proof of %+v: %+v", f, got)
				}
			}
		})
	}
	group.Wait()
}

// Many words and many steps are no more than a while's work.
func TestManyWordsAndSteps(t *testing.T) {
	d := dice(79)
	list := thrownWords(&d, 5000)
	all := stepsPlainly(list)
	if len(all) == 0 {
		t.Fatal("no facts")
	}
	for i, s := range all {
		if i%7 == 0 {
			got, ok := impl.ProofOf(list, s.Fact.Of, s.Fact.Who)
			sameSteps(t, got, ledPlainly(all, i), ok)
		}
	}
	var steps []step
	for i := range 100000 {
		steps = append(steps, stepBy(word{Kind: i}, 0, i, math.MaxInt-i))
	}
	if got := impl.CredsIn(append(steps, steps...)); len(got) != len(steps) {
		t.Errorf("%d words in %d steps", len(got), 2*len(steps))
	}
	if impl.ProofOk(steps, role{}, 0) {
		t.Error("a proof of very many steps")
	}
}
