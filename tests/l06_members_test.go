package tests

import (
	"math"
	"slices"
	"testing"

	"loop.example/g00474/impl"
)

type fact = impl.Fact

func memberWord(of role, who int) word {
	return word{Kind: impl.CrMember, Of: of, Who: who, Until: 9}
}

func fromWord(of role, a role) word {
	return word{Kind: impl.CrFrom, Of: of, A: a, Until: 9}
}

func linkWord(of role, a role, name int) word {
	return word{Kind: impl.CrLink, Of: of, A: a, B: role{Name: name}, Until: 9}
}

func bothWord(of role, a role, b role) word {
	return word{Kind: impl.CrBoth, Of: of, A: a, B: b, Until: 9}
}

// factsIn are the facts that these people are of the circle, in this order.
func factsIn(of role, people ...int) []fact {
	var list []fact
	for _, who := range people {
		list = append(list, fact{Of: of, Who: who})
	}
	return list
}

// tellPlainly asks each fact of the list for each that may stand beside it.
func tellPlainly(facts []fact, c word) []fact {
	all := slices.Clone(facts)
	tell := func(who int) {
		if f := (fact{Of: c.Of, Who: who}); !slices.Contains(all, f) {
			all = append(all, f)
		}
	}
	if !rightPlainly(c) {
		return all
	}
	if c.Kind == 1 {
		tell(c.Who)
		return all
	}
	for _, f := range facts {
		if f.Of != c.A {
			continue
		}
		if c.Kind == 2 || c.Kind == 4 && slices.Contains(facts, fact{Of: c.B, Who: f.Who}) {
			tell(f.Who)
		}
		for _, g := range facts {
			if c.Kind == 3 && g.Of.Who == f.Who && g.Of.Name == c.B.Name {
				tell(g.Who)
			}
		}
	}
	return all
}

func factsPlainly(list []word) []fact {
	var facts []fact
	for {
		before := len(facts)
		for _, c := range list {
			facts = tellPlainly(facts, c)
		}
		if len(facts) == before {
			return facts
		}
	}
}

// table says of each circle, by its Who and its Name, and of each of the people whether they are of it.
type table [6][4][6]bool

// settledPlainly asks of each of all facts whether some word tells it, till none is new; it knows of no order.
func settledPlainly(list []word) table {
	var now table
	tells := func(c word, who int) bool {
		inA, inB := now[c.A.Who][c.A.Name], now[c.B.Who][c.B.Name]
		switch c.Kind {
		case 1:
			return c.Who == who
		case 2:
			return inA[who]
		case 4:
			return inA[who] && inB[who]
		}
		for x := range 6 {
			if inA[x] && now[x][c.B.Name][who] {
				return true
			}
		}
		return false
	}
	for {
		next := now
		for _, c := range list {
			for who := range 6 {
				if rightPlainly(c) && tells(c, who) {
					next[c.Of.Who][c.Of.Name][who] = true
				}
			}
		}
		if next == now {
			return now
		}
		now = next
	}
}

func tableOf(t *testing.T, facts []fact) table {
	t.Helper()
	var all table
	for _, f := range facts {
		if !roleRight(f.Of) || !within(f.Who, 0, 5) {
			t.Fatalf("a fact that is not right: %+v", f)
		}
		at := &all[f.Of.Who][f.Of.Name][f.Who]
		if *at {
			t.Fatalf("a fact twice: %+v", f)
		}
		*at = true
	}
	return all
}

// dice tells numbers that look thrown, the same ones each time.
type dice uint32

func (d *dice) below(n int) int {
	*d = *d*1664525 + 1013904223
	return int(*d>>8) % n
}

// thrownWords are about the circles of the first few people and names alone, so that they lean on one another; some are not right.
func thrownWords(d *dice, size int) []word {
	people, names := 2+d.below(5), 1+d.below(4)
	some := func() role { return role{Who: d.below(people), Name: d.below(names)} }
	var list []word
	for range size {
		var c word
		switch d.below(5) {
		case 0, 1:
			c = memberWord(some(), d.below(people))
		case 2:
			c = fromWord(some(), some())
		case 3:
			c = linkWord(some(), some(), d.below(names))
		case 4:
			c = bothWord(some(), some(), some())
		}
		c.Until, c.Nonce = 1+d.below(9999), d.below(100)
		if d.below(8) == 0 {
			all := wrongWordsOf(c)
			c = all[d.below(len(all))]
		}
		list = append(list, c)
	}
	return list
}

// wrongWordsOf have one number that is not right, or too much.
func wrongWordsOf(whole word) []word {
	var list []word
	for _, n := range append([]int{-1, 0, 1, 4, 5, 6, 10000}, farNumbers...) {
		for i := range places(&whole) {
			c := whole
			*places(&c)[i] = n
			if !rightPlainly(c) {
				list = append(list, c)
			}
		}
	}
	return list
}

func sameFacts(t *testing.T, got []fact, want []fact, of ...any) {
	t.Helper()
	if !slices.Equal(got, want) {
		t.Errorf("facts %+v; want %+v; of %+v", got, want, of)
	}
}

var (
	friends = role{Who: 0, Name: 1}
	guests  = role{Who: 1, Name: 0}
	clerks  = role{Who: 2, Name: 2}
	judges  = role{Who: 5, Name: 3}
)

func TestFollowsByHand(t *testing.T) {
	name := func(who int) role { return role{Who: who, Name: 3} }
	some := slices.Concat(factsIn(friends, 4, 1, 3), factsIn(guests, 3, 2, 4))
	linked := slices.Concat(factsIn(friends, 4, 1), factsIn(name(1), 0, 5), factsIn(name(4), 3, 5), factsIn(name(2), 2))
	for _, c := range []struct {
		why   string
		facts []fact
		word  word
		told  []fact
	}{
		{"a member", nil, memberWord(judges, 2), factsIn(judges, 2)},
		{"a member behind facts", some, memberWord(judges, 0), factsIn(judges, 0)},
		{"another of the same circle", some, memberWord(friends, 0), factsIn(friends, 0)},
		{"a member who is there", some, memberWord(guests, 2), nil},
		{"all of a circle", some, fromWord(judges, friends), factsIn(judges, 4, 1, 3)},
		{"all of another, some of whom are there", some, fromWord(guests, friends), factsIn(guests, 1)},
		{"all of a circle with nobody in it", some, fromWord(friends, judges), nil},
		{"all of a circle, of no facts", nil, fromWord(friends, guests), nil},
		{"a link: the circle of 4 comes first, as 4 does", linked, linkWord(judges, friends, 3), factsIn(judges, 3, 5, 0)},
		{"a link by another name", linked, linkWord(judges, friends, 2), nil},
		{"a link by a circle with nobody in it", linked, linkWord(judges, guests, 3), nil},
		{"a link, some of whom are there", linked, linkWord(name(1), friends, 3), factsIn(name(1), 3)},
		{"a link, of no facts", nil, linkWord(judges, friends, 3), nil},
		{"both, in the order of A", some, bothWord(judges, friends, guests), factsIn(judges, 4, 3)},
		{"both, the other way round", some, bothWord(judges, guests, friends), factsIn(judges, 3, 4)},
		{"both, into one of them", some, bothWord(friends, guests, friends), nil},
		{"both, and the same", some, bothWord(judges, guests, guests), factsIn(judges, 3, 2, 4)},
		{"both, of which one has nobody", some, bothWord(judges, guests, clerks), nil},
		{"both, of which the other has nobody", some, bothWord(judges, clerks, guests), nil},
		{"both, of no facts", nil, bothWord(judges, friends, guests), nil},
	} {
		got := impl.Follows(c.facts, c.word)
		sameFacts(t, got, slices.Concat(c.facts, c.told), c.why)
	}
}

// Each circle's facts stand in two pieces, around those of others.
func TestFollowsTellsInTheOrderOfFacts(t *testing.T) {
	of4, of2 := role{Who: 4, Name: 1}, role{Who: 2, Name: 1}
	facts := slices.Concat(factsIn(of2, 5, 3), factsIn(guests, 4), factsIn(of4, 3, 0), factsIn(guests, 2), factsIn(of2, 1), factsIn(of4, 2))
	sameFacts(t, impl.Follows(facts, fromWord(judges, of2)), slices.Concat(facts, factsIn(judges, 5, 3, 1)))
	sameFacts(t, impl.Follows(facts, linkWord(judges, guests, 1)), slices.Concat(facts, factsIn(judges, 3, 0, 2, 5, 1)))
	sameFacts(t, impl.Follows(facts, bothWord(judges, of2, of4)), slices.Concat(facts, factsIn(judges, 3)))
	slices.Reverse(facts)
	sameFacts(t, impl.Follows(facts, fromWord(judges, of2)), slices.Concat(facts, factsIn(judges, 1, 3, 5)))
	sameFacts(t, impl.Follows(facts, linkWord(judges, guests, 1)), slices.Concat(facts, factsIn(judges, 1, 3, 5, 2, 0)))
}

func TestFollowsOfEveryWord(t *testing.T) {
	d := dice(6)
	var facts []fact
	for range 60 {
		facts = append(facts, fact{Of: role{Who: d.below(6), Name: d.below(4)}, Who: d.below(6)})
	}
	hold := func(c word) {
		got, want := impl.Follows(facts, c), tellPlainly(facts, c)
		if !slices.Equal(got, want) {
			t.Errorf("Follows(%+v) adds %+v; want %+v", c, got[min(60, len(got)):], want[60:])
		}
	}
	for _, of := range allRoles() {
		for who := range impl.People {
			hold(memberWord(of, who))
		}
		for _, a := range allRoles() {
			hold(fromWord(of, a))
			for name := range impl.Roles {
				hold(linkWord(of, a, name))
			}
			for _, b := range allRoles() {
				hold(bothWord(of, a, b))
			}
		}
	}
}

func TestFollowsTellsNothingTwice(t *testing.T) {
	twice := slices.Concat(factsIn(friends, 2, 2, 3), factsIn(guests, 3), factsIn(friends, 3, 2), factsIn(guests, 3, 2))
	for _, c := range []word{
		memberWord(friends, 2), fromWord(guests, friends), fromWord(friends, friends),
		bothWord(guests, friends, guests), linkWord(friends, judges, 0),
	} {
		sameFacts(t, impl.Follows(twice, c), twice, c)
	}
	sameFacts(t, impl.Follows(twice, fromWord(judges, friends)), slices.Concat(twice, factsIn(judges, 2, 3)))
	sameFacts(t, impl.Follows(twice, bothWord(judges, guests, friends)), slices.Concat(twice, factsIn(judges, 3, 2)))
	// Both X have the same two people in their circles.
	linked := slices.Concat(factsIn(friends, 1, 2, 1), factsIn(guests, 4, 5, 4), factsIn(role{Who: 2}, 5, 4, 4))
	sameFacts(t, impl.Follows(linked, linkWord(judges, friends, 0)), slices.Concat(linked, factsIn(judges, 4, 5)))
	for _, c := range []word{memberWord(judges, 1), fromWord(judges, friends), linkWord(judges, friends, 0), bothWord(judges, friends, guests)} {
		once := impl.Follows(linked, c)
		sameFacts(t, impl.Follows(once, c), once, c)
	}
}

// People and circles that are not right stay as they are, and are people and circles like others.
func TestFollowsOfFactsThatAreNotRight(t *testing.T) {
	for _, far := range append([]int{-1, 6, 100}, farNumbers...) {
		nobody := role{Who: far, Name: 1}
		facts := slices.Concat(factsIn(guests, far, 2), factsIn(nobody, 3, far), factsIn(role{Who: 1, Name: far}, 5), factsIn(clerks, far, far))
		sameFacts(t, impl.Follows(facts, memberWord(judges, 1)), slices.Concat(facts, factsIn(judges, 1)))
		sameFacts(t, impl.Follows(facts, fromWord(judges, guests)), slices.Concat(facts, factsIn(judges, far, 2)))
		sameFacts(t, impl.Follows(facts, linkWord(judges, guests, 1)), slices.Concat(facts, factsIn(judges, 3, far)))
		sameFacts(t, impl.Follows(facts, bothWord(judges, clerks, guests)), slices.Concat(facts, factsIn(judges, far)))
		sameFacts(t, impl.Follows(facts, bothWord(clerks, guests, clerks)), facts)
		sameFacts(t, impl.Follows(facts, fromWord(judges, nobody)), facts, "the word is not right")
		sameFacts(t, impl.Follows(facts, memberWord(judges, far)), facts, "the word is not right")
	}
}

// A word leans on the facts as they stand; what it tells itself counts from the next time on.
func TestFollowsGoesOneStep(t *testing.T) {
	of := func(who int) role { return role{Who: who, Name: 1} }
	chain := slices.Concat(factsIn(friends, 1), factsIn(of(1), 2), factsIn(of(2), 3), factsIn(of(3), 4, 1))
	c := linkWord(friends, friends, 1)
	// The circle of 0 is its own, too: whoever is of it stays there.
	first := impl.Follows(chain, c)
	sameFacts(t, first, slices.Concat(chain, factsIn(friends, 2)))
	second := impl.Follows(first, c)
	sameFacts(t, second, slices.Concat(first, factsIn(friends, 3)))
	third := impl.Follows(second, c)
	sameFacts(t, third, slices.Concat(second, factsIn(friends, 4)))
	sameFacts(t, impl.Follows(third, c), third)
}

func TestFollowsOfWordsThatAreNotRight(t *testing.T) {
	var facts []fact
	for _, r := range allRoles() {
		facts = append(facts, factsIn(r, (r.Who+1)%6, r.Name)...)
	}
	for _, whole := range kindWords() {
		for _, c := range wrongWordsOf(whole) {
			sameFacts(t, impl.Follows(facts, c), facts, c)
			sameFacts(t, impl.Follows(facts[:1], c), facts[:1], c)
			sameFacts(t, impl.Follows(nil, c), nil, c)
		}
	}
	sameFacts(t, impl.Follows(facts, word{}), facts)
	sameFacts(t, impl.Follows([]fact{}, word{}), nil)
}

func TestFactsByHand(t *testing.T) {
	of3 := role{Who: 3, Name: 2}
	m, n := memberWord(guests, 3), memberWord(of3, 4)
	f := fromWord(friends, guests)
	l := linkWord(clerks, friends, 2)
	b := bothWord(judges, clerks, of3)
	g, o, r, c, j := fact{Of: guests, Who: 3}, fact{Of: of3, Who: 4}, fact{Of: friends, Who: 3}, fact{Of: clerks, Who: 4}, fact{Of: judges, Who: 4}
	for _, x := range []struct {
		why  string
		list []word
		want []fact
	}{
		{"one word", []word{m}, []fact{g}},
		{"each leans on those ahead", []word{m, n, f, l, b}, []fact{g, o, r, c, j}},
		{"each leans on those behind", []word{b, l, f, n, m}, []fact{o, g, r, c, j}},
		{"some ahead, some behind", []word{f, m, b, l, n}, []fact{g, o, r, c, j}},
		{"the second time round", []word{l, m, f, n, b}, []fact{g, r, o, c, j}},
		{"without the first", []word{n, f, l, b}, []fact{o}},
		{"without the second", []word{m, f, l, b}, []fact{g, r}},
		{"nothing to lean on", []word{f, l, b}, nil},
		{"each twice", []word{b, b, l, l, f, f, n, n, m, m}, []fact{o, g, r, c, j}},
	} {
		sameFacts(t, impl.FactsOf(x.list), x.want, x.why)
	}
}

// Whatever its day and its nonce, a right word tells the same.
func TestFactsOfEveryDay(t *testing.T) {
	for _, until := range rightUntils {
		for _, nonce := range rightNonces {
			list := []word{fromWord(friends, guests), memberWord(guests, 5)}
			for i := range list {
				list[i].Until, list[i].Nonce = until, nonce
			}
			sameFacts(t, impl.FactsOf(list), []fact{{Of: guests, Who: 5}, {Of: friends, Who: 5}}, list)
		}
	}
}

func TestCirclesOfEachOther(t *testing.T) {
	round := []word{fromWord(friends, guests), fromWord(guests, friends)}
	sameFacts(t, impl.FactsOf(round), nil, "nobody is of either")
	sameFacts(t, impl.FactsOf(append(round, memberWord(friends, 2), memberWord(guests, 4))), []fact{
		{Of: friends, Who: 2}, {Of: guests, Who: 4}, {Of: friends, Who: 4}, {Of: guests, Who: 2},
	})
	sameFacts(t, impl.FactsOf([]word{fromWord(friends, friends)}), nil, "all of itself")
	sameFacts(t, impl.FactsOf([]word{fromWord(friends, friends), memberWord(friends, 5)}), factsIn(friends, 5))
	sameFacts(t, impl.FactsOf([]word{memberWord(friends, 0), fromWord(friends, friends)}), factsIn(friends, 0))
	sameFacts(t, impl.FactsOf([]word{bothWord(friends, guests, guests), bothWord(guests, friends, friends)}), nil)
	sameFacts(t, impl.FactsOf([]word{bothWord(friends, friends, friends)}), nil)
	sameFacts(t, impl.FactsOf([]word{linkWord(friends, friends, 1)}), nil)
	three := []word{fromWord(friends, guests), fromWord(guests, clerks), fromWord(clerks, friends), memberWord(guests, 1)}
	sameFacts(t, impl.FactsOf(three), []fact{{Of: guests, Who: 1}, {Of: friends, Who: 1}, {Of: clerks, Who: 1}})
}

// Both parts of a CrBoth come by the CrBoth alone, or one of them by its own right.
func TestBothThatComeOnlyByEachOther(t *testing.T) {
	c := bothWord(judges, friends, guests)
	back := []word{fromWord(friends, judges), fromWord(guests, judges)}
	sameFacts(t, impl.FactsOf(append(slices.Clone(back), c)), nil, "neither")
	half := append(slices.Clone(back), c, memberWord(friends, 3))
	sameFacts(t, impl.FactsOf(half), factsIn(friends, 3), "one of both")
	sameFacts(t, impl.FactsOf(append(half, memberWord(guests, 4))), []fact{{Of: friends, Who: 3}, {Of: guests, Who: 4}}, "both, but not one person")
	sameFacts(t, impl.FactsOf(append(half, memberWord(guests, 3))), []fact{{Of: friends, Who: 3}, {Of: guests, Who: 3}, {Of: judges, Who: 3}})
	cross := []word{bothWord(friends, guests, judges), bothWord(guests, friends, judges), memberWord(judges, 2)}
	sameFacts(t, impl.FactsOf(cross), factsIn(judges, 2), "each wants the other")
	sameFacts(t, impl.FactsOf(append(cross, memberWord(guests, 2))), []fact{{Of: judges, Who: 2}, {Of: guests, Who: 2}, {Of: friends, Who: 2}})
}

func TestLinksThroughTheirOwnCircle(t *testing.T) {
	of := func(who int) role { return role{Who: who, Name: 1} }
	// The friends of friends of 0 are friends of 0.
	grow := linkWord(friends, friends, 1)
	list := []word{grow, memberWord(of(4), 5), memberWord(of(2), 4), memberWord(friends, 2)}
	sameFacts(t, impl.FactsOf(list), []fact{
		{Of: of(4), Who: 5}, {Of: of(2), Who: 4}, {Of: friends, Who: 2},
		{Of: friends, Who: 4}, {Of: friends, Who: 5},
	})
	sameFacts(t, impl.FactsOf([]word{grow, memberWord(friends, 0)}), factsIn(friends, 0), "one is a friend of oneself")
	// The circle of 2 has those that 0's has: X's circle is the one that the word tells of.
	into := []word{linkWord(of(2), friends, 1), memberWord(friends, 2)}
	sameFacts(t, impl.FactsOf(into), factsIn(friends, 2), "nobody is of the circle of 2")
	into = append(into, memberWord(friends, 3), memberWord(of(3), 1))
	sameFacts(t, impl.FactsOf(into), []fact{
		{Of: friends, Who: 2}, {Of: friends, Who: 3}, {Of: of(3), Who: 1}, {Of: of(2), Who: 1},
	})
}

func TestLinksThroughSomeWithAndSomeWithoutACircle(t *testing.T) {
	of := func(who int) role { return role{Who: who, Name: 2} }
	list := []word{
		memberWord(guests, 5), memberWord(guests, 0), memberWord(guests, 3), memberWord(guests, 4),
		memberWord(of(3), 3), memberWord(of(3), 1), memberWord(of(3), 0),
		memberWord(of(5), 4), memberWord(of(5), 1),
		memberWord(of(1), 2), memberWord(role{Who: 4, Name: 1}, 2),
		linkWord(judges, guests, 2),
	}
	// 0 and 4 have no such circle; 1 has one, but is no guest.
	want := factsIn(judges, 4, 1, 3, 0)
	got := impl.FactsOf(list)
	sameFacts(t, got[len(list)-1:], want)
	if people := impl.MembersOf(list, judges); !slices.Equal(people, []int{0, 1, 3, 4}) {
		t.Errorf("the judges are %v", people)
	}
	sameFacts(t, impl.FactsOf([]word{memberWord(guests, 5), linkWord(judges, guests, 2)}), factsIn(guests, 5), "5 has no such circle")
	sameFacts(t, impl.FactsOf([]word{memberWord(of(5), 5), linkWord(judges, guests, 2)}), factsIn(of(5), 5), "5 is no guest")
}

// A chain through all circles against the order of its words: one more comes each time round.
func TestFactsOfALongWay(t *testing.T) {
	roles := allRoles()
	var list []word
	for i := range len(roles) - 1 {
		list = append(list, fromWord(roles[i], roles[i+1]))
	}
	last := roles[len(roles)-1]
	var want []fact
	for who := range impl.People {
		list = append(list, memberWord(last, who))
		want = append(want, fact{Of: last, Who: who})
	}
	for i := len(roles) - 2; i >= 0; i-- {
		want = append(want, factsIn(roles[i], 0, 1, 2, 3, 4, 5)...)
	}
	sameFacts(t, impl.FactsOf(list), want)
	slices.Reverse(list)
	if all := impl.FactsOf(list); len(all) != 144 || tableOf(t, all) != settledPlainly(list) {
		t.Errorf("%d facts", len(all))
	}
}

func TestFactsOfNothing(t *testing.T) {
	for _, list := range [][]word{nil, {}, {{}}, {{}, {Kind: 5, Until: 1}}} {
		if len(impl.FactsOf(list)) != 0 || len(impl.Alive(list, 0)) != 0 {
			t.Errorf("facts %v, alive %v of %v", impl.FactsOf(list), impl.Alive(list, 0), list)
		}
		for _, r := range append(allRoles(), wrongRoles()...) {
			for who := -1; who <= impl.People; who++ {
				if impl.IsMember(list, r, who) || len(impl.MembersOf(list, r)) != 0 || len(impl.RolesOf(list, who)) != 0 {
					t.Errorf("%d is of %+v by %v", who, r, list)
				}
			}
		}
	}
}

func TestFactsOfWordsThatAreNotRight(t *testing.T) {
	right := []word{bothWord(judges, guests, friends), fromWord(friends, guests), memberWord(guests, 4), memberWord(guests, 2), linkWord(clerks, guests, 0)}
	want := impl.FactsOf(right)
	sameFacts(t, want, factsPlainly(right))
	for _, whole := range kindWords() {
		for i, c := range wrongWordsOf(whole) {
			sameFacts(t, impl.FactsOf([]word{c}), nil, c)
			at := i % (len(right) + 1)
			sameFacts(t, impl.FactsOf(slices.Insert(slices.Clone(right), at, c)), want, c)
			if impl.IsMember([]word{c}, c.Of, c.Who) || len(impl.MembersOf([]word{c}, c.Of)) != 0 || len(impl.RolesOf([]word{c}, c.Who)) != 0 {
				t.Errorf("%+v is not right, but tells of somebody", c)
			}
			if len(impl.Alive([]word{c}, 0)) != 0 {
				t.Errorf("%+v is not right, but alive", c)
			}
		}
	}
}

// The facts are held against a way that goes by lists, as to their order, and against one that goes by a table, as to which they are.
func TestFactsOfThrownWords(t *testing.T) {
	d := dice(1)
	longest := 0
	for i := range 1500 {
		list := thrownWords(&d, i%40)
		got := impl.FactsOf(list)
		sameFacts(t, got, factsPlainly(list), list)
		if tableOf(t, got) != settledPlainly(list) {
			t.Fatalf("facts %+v of %+v", got, list)
		}
		longest = max(longest, len(got))
	}
	if longest < 40 {
		t.Errorf("at most %d facts of thrown words", longest)
	}
}

func TestFollowsOfThrownFacts(t *testing.T) {
	d := dice(2)
	for range 1500 {
		var facts []fact
		for range d.below(30) {
			facts = append(facts, fact{Of: role{Who: d.below(4) - 1, Name: d.below(3) - 1}, Who: d.below(5) - 1})
		}
		for _, c := range thrownWords(&d, 8) {
			sameFacts(t, impl.Follows(facts, c), tellPlainly(facts, c), facts, c)
		}
	}
}

// FactsOf is Follows of each word, again and again.
func TestFactsAreWhatFollows(t *testing.T) {
	d := dice(3)
	for i := range 300 {
		list := thrownWords(&d, i%30)
		var facts []fact
		for before := -1; before < len(facts); {
			before = len(facts)
			for _, c := range list {
				facts = impl.Follows(facts, c)
			}
		}
		sameFacts(t, impl.FactsOf(list), facts, list)
	}
}

func TestMoreWordsTellNoLess(t *testing.T) {
	d := dice(4)
	for range 150 {
		list := thrownWords(&d, 30)
		var before table
		for size := range len(list) + 1 {
			now := tableOf(t, impl.FactsOf(list[:size]))
			for _, r := range allRoles() {
				for who := range impl.People {
					if before[r.Who][r.Name][who] && !now[r.Who][r.Name][who] {
						t.Fatalf("%d is not of %+v any more behind %+v", who, r, list[:size])
					}
				}
			}
			before = now
		}
	}
}

// The order of the words settles the order of the facts, but not which there are.
func TestOrderOfWordsTellsTheSame(t *testing.T) {
	d := dice(5)
	for range 300 {
		list := thrownWords(&d, 25)
		want := tableOf(t, impl.FactsOf(list))
		for range 3 {
			at, other := d.below(len(list)), d.below(len(list))
			list[at], list[other] = list[other], list[at]
			if tableOf(t, impl.FactsOf(list)) != want {
				t.Fatalf("other facts in another order of %+v", list)
			}
		}
		slices.Reverse(list)
		if tableOf(t, impl.FactsOf(list)) != want {
			t.Fatalf("other facts the other way round of %+v", list)
		}
	}
}

func TestWhoIsOfWhatIsWhatTheFactsSay(t *testing.T) {
	d := dice(7)
	for i := range 120 {
		list := thrownWords(&d, i%40)
		facts := impl.FactsOf(list)
		for _, r := range append(allRoles(), edgeRoles()...) {
			var people []int
			for who := -2; who <= impl.People+1; who++ {
				want := slices.Contains(facts, fact{Of: r, Who: who})
				if impl.IsMember(list, r, who) != want {
					t.Fatalf("IsMember(%+v, %d) = %v by %+v", r, who, !want, list)
				}
				if want {
					people = append(people, who)
				}
			}
			if got := impl.MembersOf(list, r); !slices.Equal(got, people) {
				t.Fatalf("MembersOf(%+v) = %v; want %v", r, got, people)
			}
		}
		for who := -2; who <= impl.People+1; who++ {
			var roles []role
			for _, r := range allRoles() {
				if slices.Contains(facts, fact{Of: r, Who: who}) {
					roles = append(roles, r)
				}
			}
			if got := impl.RolesOf(list, who); !slices.Equal(got, roles) {
				t.Fatalf("RolesOf(%d) = %+v; want %+v", who, got, roles)
			}
		}
	}
}

func TestMembersAndRolesInTheirOrder(t *testing.T) {
	list := []word{
		memberWord(role{Who: 5, Name: 0}, 3), memberWord(role{Who: 0, Name: 3}, 3), memberWord(role{Who: 2, Name: 2}, 3),
		memberWord(role{Who: 2, Name: 1}, 3), memberWord(role{Who: 0, Name: 0}, 3), memberWord(role{Who: 2, Name: 1}, 5),
		memberWord(role{Who: 2, Name: 1}, 0), memberWord(role{Who: 2, Name: 1}, 4), memberWord(role{Who: 2, Name: 1}, 0),
	}
	if got := impl.MembersOf(list, role{Who: 2, Name: 1}); !slices.Equal(got, []int{0, 3, 4, 5}) {
		t.Errorf("MembersOf = %v", got)
	}
	if got := impl.RolesOf(list, 3); !slices.Equal(got, []role{{}, {Name: 3}, {Who: 2, Name: 1}, {Who: 2, Name: 2}, {Who: 5}}) {
		t.Errorf("RolesOf = %+v", got)
	}
}

// Everybody is of every circle, so that just those stay outside who are not right.
func TestNobodyElseIsOfACircle(t *testing.T) {
	var list []word
	for _, r := range allRoles() {
		for who := range impl.People {
			list = append(list, memberWord(r, who))
		}
	}
	if all := impl.FactsOf(list); len(all) != 144 {
		t.Fatalf("%d facts", len(all))
	}
	for _, r := range allRoles() {
		if got := impl.MembersOf(list, r); !slices.Equal(got, []int{0, 1, 2, 3, 4, 5}) {
			t.Errorf("MembersOf(%+v) = %v", r, got)
		}
	}
	strangers := append([]int{-1, 6, 7}, farNumbers...)
	for _, who := range strangers {
		if got := impl.RolesOf(list, who); len(got) != 0 {
			t.Errorf("RolesOf(%d) = %+v", who, got)
		}
		for _, r := range allRoles() {
			if impl.IsMember(list, r, who) {
				t.Errorf("%d is of %+v", who, r)
			}
		}
	}
	for _, r := range wrongRoles() {
		if got := impl.MembersOf(list, r); len(got) != 0 {
			t.Errorf("MembersOf(%+v) = %v", r, got)
		}
		for who := range impl.People {
			if impl.IsMember(list, r, who) {
				t.Errorf("%d is of %+v", who, r)
			}
		}
	}
	for who := range impl.People {
		if got := impl.RolesOf(list, who); !slices.Equal(got, allRoles()) {
			t.Errorf("RolesOf(%d) = %+v", who, got)
		}
	}
}

func TestAliveAtTheDayAndBesideIt(t *testing.T) {
	for _, c := range kindWords() {
		for _, until := range rightUntils {
			c.Until = until
			for _, now := range []int{until - 1, until} {
				if got := impl.Alive([]word{c}, now); !slices.Equal(got, []word{c}) {
					t.Errorf("Alive(%+v, %d) = %+v", c, now, got)
				}
			}
			if got := impl.Alive([]word{c}, until+1); len(got) != 0 {
				t.Errorf("Alive(%+v, %d) = %+v", c, until+1, got)
			}
		}
	}
}

func TestAliveKeepsTheOrder(t *testing.T) {
	var list []word
	for i, until := range []int{9, 3, 9999, 5, 1, 5, 7, 3} {
		list = append(list, kindWords()[i])
		list[i].Until = until
	}
	for _, c := range []struct {
		now  int
		left []int
	}{
		{0, []int{0, 1, 2, 3, 4, 5, 6, 7}},
		{1, []int{0, 1, 2, 3, 4, 5, 6, 7}},
		{2, []int{0, 1, 2, 3, 5, 6, 7}},
		{3, []int{0, 1, 2, 3, 5, 6, 7}},
		{4, []int{0, 2, 3, 5, 6}},
		{5, []int{0, 2, 3, 5, 6}},
		{6, []int{0, 2, 6}},
		{8, []int{0, 2}},
		{10, []int{2}},
		{9999, []int{2}},
		{10000, nil},
	} {
		var want []word
		for _, i := range c.left {
			want = append(want, list[i])
		}
		if got := impl.Alive(list, c.now); !slices.Equal(got, want) {
			t.Errorf("Alive at %d = %+v; want %+v", c.now, got, want)
		}
	}
	same := []word{list[0], list[0], list[2], list[0]}
	if got := impl.Alive(same, 9); !slices.Equal(got, same) {
		t.Errorf("words that stand twice: %+v", got)
	}
}

func TestAliveAtDaysThatAreNone(t *testing.T) {
	d := dice(8)
	list := thrownWords(&d, 60)
	var right []word
	for _, c := range list {
		if rightPlainly(c) {
			right = append(right, c)
		}
	}
	if len(right) == len(list) || len(right) == 0 {
		t.Fatal("all words are right, or none")
	}
	for _, now := range []int{math.MinInt, -10000, -1, 0} {
		if got := impl.Alive(list, now); !slices.Equal(got, right) {
			t.Errorf("Alive at %d = %+v", now, got)
		}
	}
	for _, now := range []int{10000, 10001, 1 << 32, math.MaxInt} {
		if got := impl.Alive(list, now); len(got) != 0 {
			t.Errorf("Alive at %d = %+v", now, got)
		}
	}
	for now := -1; now < 10001; now += 7 {
		for _, c := range impl.Alive(list, now) {
			if !slices.Contains(right, c) || c.Until < now {
				t.Errorf("Alive at %d has %+v", now, c)
			}
		}
	}
}

// withRoom has marks in the spare room behind the list.
func withRoom[T any](list []T, mark T) []T {
	long := slices.Clone(list)
	for range 300 {
		long = append(long, mark)
	}
	return long[:len(list)]
}

// untouched says whether the list is as it was, and the marks behind it are.
func untouched[T comparable](list []T, was []T, mark T) bool {
	if !slices.Equal(list, was) {
		return false
	}
	for _, x := range list[len(list) : len(list)+300] {
		if x != mark {
			return false
		}
	}
	return true
}

func TestWordsAndFactsAreLeftAsTheyAre(t *testing.T) {
	d := dice(9)
	mark, markFact := memberWord(judges, 5), fact{Of: role{Who: 77, Name: 78}, Who: 79}
	for i := range 60 {
		was := thrownWords(&d, i)
		list := withRoom(was, mark)
		wereFacts := factsPlainly(was)
		facts := withRoom(wereFacts, markFact)
		impl.FactsOf(list)
		impl.IsMember(list, friends, 1)
		impl.MembersOf(list, friends)
		impl.RolesOf(list, 1)
		impl.Alive(list, 5000)
		for _, c := range append(was, memberWord(judges, i%6), word{}) {
			impl.Follows(facts, c)
		}
		if !untouched(list, was, mark) {
			t.Fatalf("the words were written into: %+v", list)
		}
		if !untouched(facts, wereFacts, markFact) {
			t.Fatalf("the facts were written into: %+v", facts)
		}
	}
}

// keepsApart changes an answer, and what could stand behind it, and looks at what must not change with it.
func keepsApart[T comparable](t *testing.T, answer []T, other []T, mark T, why string) {
	t.Helper()
	if len(answer) == 0 {
		t.Fatalf("nothing to change: %s", why)
	}
	was := slices.Clone(other)
	for i := range answer {
		answer[i] = mark
	}
	for range 9 {
		answer = append(answer, mark)
	}
	if !slices.Equal(other, was) {
		t.Errorf("it shares memory: %s", why)
	}
}

func TestAnswersAboutCirclesAreNewMemory(t *testing.T) {
	mark := fact{Of: role{Who: 77}, Who: 78}
	facts := withRoom(slices.Concat(factsIn(friends, 1, 2), factsIn(guests, 2)), mark)
	for _, c := range []word{memberWord(judges, 1), memberWord(friends, 1), fromWord(judges, friends), linkWord(judges, friends, 0), bothWord(judges, friends, guests), {}} {
		keepsApart(t, impl.Follows(facts, c), facts, mark, "Follows and its facts")
		keepsApart(t, impl.Follows(facts, c), impl.Follows(facts, c), mark, "two answers of Follows")
		if !untouched(facts, slices.Concat(factsIn(friends, 1, 2), factsIn(guests, 2)), mark) {
			t.Error("Follows gives room that is another's")
		}
		// What the answer is made of may change afterwards.
		room := slices.Clone(facts)
		answer := impl.Follows(room, c)
		keepsApart(t, room, answer, mark, "the facts and what followed")
	}
	list := withRoom([]word{memberWord(friends, 1), memberWord(friends, 2), fromWord(guests, friends)}, word{})
	keepsApart(t, impl.FactsOf(list), impl.FactsOf(list), mark, "two answers of FactsOf")
	keepsApart(t, impl.MembersOf(list, friends), impl.MembersOf(list, friends), 77, "two answers of MembersOf")
	keepsApart(t, impl.MembersOf(list, guests), impl.MembersOf(list, friends), 77, "MembersOf two circles")
	keepsApart(t, impl.RolesOf(list, 1), impl.RolesOf(list, 1), role{Who: 77}, "two answers of RolesOf")
	keepsApart(t, impl.Alive(list, 1), list, word{Kind: 77}, "Alive and its words")
	keepsApart(t, impl.Alive(list, 1), impl.Alive(list, 1), word{Kind: 77}, "two answers of Alive")
	if len(impl.Alive(list, 1)) != 3 || len(impl.FactsOf(list)) != 4 {
		t.Error("an answer hangs on one before it")
	}
}

// Many words of a few facts, and many facts that are not right, are no more than a while's work.
func TestManyWordsAndFacts(t *testing.T) {
	d := dice(10)
	list := thrownWords(&d, 5000)
	if tableOf(t, impl.FactsOf(list)) != settledPlainly(list) {
		t.Error("facts of many words")
	}
	var facts []fact
	for i := range 20000 {
		facts = append(facts, fact{Of: friends, Who: i}, fact{Of: guests, Who: i}, fact{Of: guests, Who: -i})
	}
	for _, c := range []struct {
		word word
		told int
	}{
		{fromWord(judges, friends), 20000},
		{bothWord(judges, friends, guests), 20000},
		{linkWord(judges, friends, 0), 39999},
		{linkWord(judges, guests, 1), 20000},
		{memberWord(guests, 3), 0},
	} {
		if got := len(impl.Follows(facts, c.word)) - len(facts); got != c.told {
			t.Errorf("Follows(%+v) adds %d facts; want %d", c.word, got, c.told)
		}
	}
}
