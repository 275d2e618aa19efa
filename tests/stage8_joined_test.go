package tests

import (
	"math"
	"math/rand"
	"slices"
	"testing"

	"loop.example/failingnets/impl"
)

// both returns the family of all states that are in both families, either that of those in one at least.
func (s stateSet) both(other stateSet) stateSet {
	return stateSet{s.things, s.in & other.in}
}

func (s stateSet) either(other stateSet) stateSet {
	return stateSet{s.things, s.in | other.in}
}

// apart finds the family of both with things of their own: a state is in it if it falls into two parts, the one in the one family, the other one in the other family.
func (s stateSet) apart(other stateSet) stateSet {
	return setWhere(s.things, func(state int) bool {
		for part := range state + 1 {
			if allOf(state, part) && s.has(part) && other.has(state-part) {
				return true
			}
		}
		return false
	})
}

// setPairs returns each two families of at most 3 things, some two of 4, drawn ones of 5 and 6, and each two marked ones.
func setPairs() [][2]stateSet {
	var list [][2]stateSet
	eachTwo := func(sets []stateSet) {
		for _, one := range sets {
			for _, other := range sets {
				list = append(list, [2]stateSet{one, other})
			}
		}
	}
	for things := range 4 {
		eachTwo(allSets(things))
	}
	for things := range impl.MaxThings + 1 {
		eachTwo(markedSets(things))
	}
	draw := rand.New(rand.NewSource(88))
	for _, sets := range [][]stateSet{allSets(4), allSets(5), drawnSets(1000)} {
		for range 1000 {
			list = append(list, [2]stateSet{sets[draw.Intn(len(sets))], sets[draw.Intn(len(sets))]})
		}
		for _, set := range sets[:100] {
			list = append(list, [2]stateSet{set, set}, [2]stateSet{set, set.blocker()}, [2]stateSet{set.blocker(), set})
		}
	}
	return list
}

// joinedFamilies are all families that two families make.
type joinedFamilies struct {
	both   impl.Family
	either impl.Family
	apart  impl.Family
}

// mustJoin returns all families that two families make, and fails a test if one of them is none.
func mustJoin(t *testing.T, f, g impl.Family) joinedFamilies {
	t.Helper()
	both, bothOk := impl.BothFamilies(f, g)
	either, eitherOk := impl.EitherFamily(f, g)
	apart, apartOk := impl.ApartFamilies(f, g)
	if !bothOk || !eitherOk || !apartOk || !impl.FamilyOk(both) || !impl.FamilyOk(either) || !impl.FamilyOk(apart) {
		t.Fatal("no family", f, g, both, bothOk, either, eitherOk, apart, apartOk)
	}
	return joinedFamilies{both, either, apart}
}

// noJoined fails a test if two families, either way, make a family.
func noJoined(t *testing.T, f, g impl.Family) {
	t.Helper()
	for _, pair := range [][2]impl.Family{{f, g}, {g, f}} {
		both, ok := impl.BothFamilies(pair[0], pair[1])
		noFamily(t, "BothFamilies", pair, both, ok)
		either, ok := impl.EitherFamily(pair[0], pair[1])
		noFamily(t, "EitherFamily", pair, either, ok)
		apart, ok := impl.ApartFamilies(pair[0], pair[1])
		noFamily(t, "ApartFamilies", pair, apart, ok)
	}
}

func TestPromise47BothAreNotLessLikelyTogether(t *testing.T) {
	for _, pair := range setPairs() {
		f, g := pair[0].family(), pair[1].family()
		both := mustJoin(t, f, g).both
		if impl.CountIn(both)<<f.Things < impl.CountIn(f)*impl.CountIn(g) {
			t.Fatal("less likely together", f, g, both)
		}
		if exchanged := mustJoin(t, g, f).both; !sameFamily(exchanged, both) {
			t.Fatal("exchanged it is another one", f, g, both, exchanged)
		}
		for state := range pair[0].all() {
			if impl.InOk(both, state) != (impl.InOk(f, state) && impl.InOk(g, state)) {
				t.Fatal("in both, or not", f, g, both, state)
			}
		}
	}
}

func TestPromise48WhatBlocksEitherIsWhatBlocksBoth(t *testing.T) {
	for _, pair := range setPairs() {
		f, g := pair[0].family(), pair[1].family()
		joined := mustJoin(t, f, g)
		blocked := mustJoin(t, mustBlock(t, f), mustBlock(t, g)).both
		if got := mustBlock(t, joined.either); !sameFamily(got, blocked) {
			t.Fatal("something else blocks either", f, g, got, blocked)
		}
		mustBeNumber(t, "either and both together", pair, impl.CountIn(joined.either)+impl.CountIn(joined.both), impl.CountIn(f)+impl.CountIn(g))
	}
}

func TestPromise49WithThingsOfTheirOwnBothAreNotMoreLikely(t *testing.T) {
	for _, pair := range setPairs() {
		f, g := pair[0].family(), pair[1].family()
		joined := mustJoin(t, f, g)
		if impl.CountIn(joined.apart)<<f.Things > impl.CountIn(f)*impl.CountIn(g) {
			t.Fatal("more likely", f, g, joined.apart)
		}
		for state := range pair[0].all() {
			if impl.InOk(joined.apart, state) && !impl.InOk(joined.both, state) {
				t.Fatal("not in both", f, g, joined, state)
			}
		}
		if exchanged := mustJoin(t, g, f).apart; !sameFamily(exchanged, joined.apart) {
			t.Fatal("exchanged it is another one", f, g, joined.apart, exchanged)
		}
	}
}

func TestJoinedFamiliesAreThoseFoundOtherwise(t *testing.T) {
	for _, pair := range setPairs() {
		got := mustJoin(t, pair[0].family(), pair[1].family())
		mustBeFamily(t, "BothFamilies", pair, got.both, true, pair[0].both(pair[1]))
		mustBeFamily(t, "EitherFamily", pair, got.either, true, pair[0].either(pair[1]))
		mustBeFamily(t, "ApartFamilies", pair, got.apart, true, pair[0].apart(pair[1]))
	}
}

// joinedCase is two families of so many things, by their least states, and those of the families that they make.
type joinedCase struct {
	things int
	one    []int
	other  []int
	both   []int
	either []int
	apart  []int
}

func TestJoinedFamilyExamples(t *testing.T) {
	for _, c := range []joinedCase{
		{3, []int{3, 4}, []int{1}, []int{3, 5}, []int{1, 4}, []int{5}},
		{3, nil, nil, nil, nil, nil},
		{3, nil, []int{0}, nil, []int{0}, nil},
		{3, []int{0}, []int{0}, []int{0}, []int{0}, []int{0}},
		{3, []int{0}, []int{3, 4}, []int{3, 4}, []int{0}, []int{3, 4}},
		{3, nil, []int{3, 4}, nil, []int{3, 4}, nil},
		{0, nil, nil, nil, nil, nil},
		{0, []int{0}, nil, nil, []int{0}, nil},
		{0, []int{0}, []int{0}, []int{0}, []int{0}, []int{0}},
		// All least states in common: both are one of them, or with things of their own two.
		{3, []int{1, 2, 4}, []int{1, 2, 4}, []int{1, 2, 4}, []int{1, 2, 4}, []int{3, 5, 6}},
		{3, []int{3, 5, 6}, []int{3, 5, 6}, []int{3, 5, 6}, []int{3, 5, 6}, nil},
		{4, []int{3, 12}, []int{3, 12}, []int{3, 12}, []int{3, 12}, []int{15}},
		// No things in common: both have things of their own always.
		{4, []int{1, 2}, []int{4, 8}, []int{5, 6, 9, 10}, []int{1, 2, 4, 8}, []int{5, 6, 9, 10}},
		{6, []int{7}, []int{56}, []int{63}, []int{7, 56}, []int{63}},
		{6, []int{3, 5}, []int{48, 40}, []int{43, 45, 51, 53}, []int{3, 5, 40, 48}, []int{43, 45, 51, 53}},
		// A family and its blocker.
		{3, []int{3, 4}, []int{5, 6}, []int{5, 6}, []int{3, 4}, nil},
		{1, []int{1}, []int{1}, []int{1}, []int{1}, nil},
		// A state is met twice, or has all things of one of the other family.
		{6, []int{32}, []int{48, 33}, []int{33, 48}, []int{32}, nil},
		{6, []int{48, 33}, []int{16, 1, 34}, []int{33, 48}, []int{1, 16, 34}, []int{49}},
	} {
		f, _ := impl.FamilyFrom(c.things, c.one)
		g, _ := impl.FamilyFrom(c.things, c.other)
		for _, got := range []joinedFamilies{mustJoin(t, f, g), mustJoin(t, g, f)} {
			mustBeRow(t, "BothFamilies", c, got.both.Least, c.both)
			mustBeRow(t, "EitherFamily", c, got.either.Least, c.either)
			mustBeRow(t, "ApartFamilies", c, got.apart.Least, c.apart)
			mustBeRow(t, "things", c, []int{got.both.Things, got.either.Things, got.apart.Things}, slices.Repeat([]int{c.things}, 3))
		}
	}
}

func TestAFamilyWithItselfNoneAllAndItsBlocker(t *testing.T) {
	for _, set := range manySets() {
		f, empty, full := set.family(), none(set.things).family(), every(set.things).family()
		same := mustJoin(t, f, f)
		if !sameFamily(same.both, f) || !sameFamily(same.either, f) {
			t.Fatal("with itself", f, same)
		}
		withNone, withAll := mustJoin(t, f, empty), mustJoin(t, f, full)
		if !sameFamily(withNone.both, empty) || !sameFamily(withNone.either, f) || !sameFamily(withNone.apart, empty) {
			t.Fatal("with the family of no states", f, withNone)
		}
		if !sameFamily(withAll.both, f) || !sameFamily(withAll.either, full) || !sameFamily(withAll.apart, f) {
			t.Fatal("with the family of all states", f, withAll)
		}
		// Each least state has a thing in common with each one of the blocker.
		if blocked := mustJoin(t, f, mustBlock(t, f)); len(blocked.apart.Least) != 0 {
			t.Fatal("with its blocker", f, blocked)
		}
	}
}

func TestFamiliesWithDifferentNumbersOfThings(t *testing.T) {
	for things := range impl.MaxThings + 1 {
		for others := range impl.MaxThings + 1 {
			if things == others {
				continue
			}
			for _, one := range markedSets(things) {
				for _, other := range markedSets(others) {
					noJoined(t, one.family(), other.family())
				}
			}
		}
	}
}

// sixNets returns nets of exactly 6 edges, drawn from a fixed beginning.
func sixNets() []impl.Net {
	draw := rand.New(rand.NewSource(66))
	var list []impl.Net
	for i := range 120 {
		net := impl.Net{Nodes: 3 + i%4}
		pairs := allPairs(net.Nodes)
		for range impl.MaxThings {
			net.Edges = append(net.Edges, pairs[draw.Intn(len(pairs))])
		}
		list = append(list, net)
	}
	return list
}

// smallNets returns valid nets of at most 6 edges.
func smallNets() []impl.Net {
	small := slices.DeleteFunc(validNets(), func(net impl.Net) bool { return len(net.Edges) > impl.MaxThings })
	return append(small, sixNets()...)
}

// joinedStates finds in another way all states of a net in which two nodes are joined.
func joinedStates(net impl.Net, pair [2]int) stateSet {
	paths := otherPaths(net, pair[0], pair[1])
	return setWhere(len(net.Edges), func(state int) bool {
		return slices.ContainsFunc(paths, func(path int) bool { return allOf(state, path) })
	})
}

func TestPromise50CutsBlockPaths(t *testing.T) {
	for _, net := range smallNets() {
		for _, pair := range nodePairs(net) {
			f, ok := impl.PathFamily(net, pair[0], pair[1])
			if !ok || !impl.FamilyOk(f) || f.Things != len(net.Edges) {
				t.Fatal("no family", net, pair, f, ok)
			}
			about := []any{net, pair}
			mustBeRow(t, "the least states of the blocker", about, mustBlock(t, f).Least, impl.CutsOf(net, pair[0], pair[1]))
			mustBeNumber(t, "CountIn", about, impl.CountIn(f), sumOf(impl.JoiningCounts(net, pair[0], pair[1])))
		}
	}
}

func TestPromise51TwoPairsOfNodesHelpEachOtherOrShare(t *testing.T) {
	for _, net := range smallNets() {
		// The ends are exchanged here and there: the family is the same.
		var families []impl.Family
		for at, edge := range allPairs(net.Nodes) {
			a, b := edge.A, edge.B
			if at%2 == 1 {
				a, b = b, a
			}
			f, ok := impl.PathFamily(net, a, b)
			if !ok {
				t.Fatal("no family", net, edge)
			}
			families = append(families, f)
		}
		for at, f := range families {
			for _, g := range families[at:] {
				joined, product := mustJoin(t, f, g), impl.CountIn(f)*impl.CountIn(g)
				if impl.CountIn(joined.both)*states(net) < product {
					t.Fatal("less likely than by the product", net, f, g)
				}
				if impl.CountIn(joined.apart)*states(net) > product {
					t.Fatal("more likely than by the product", net, f, g)
				}
			}
		}
	}
}

func TestPathFamiliesAreThoseFoundOtherwise(t *testing.T) {
	for _, net := range smallNets() {
		for _, pair := range nodePairs(net) {
			f, ok := impl.PathFamily(net, pair[0], pair[1])
			mustBeFamily(t, "PathFamily", []any{net, pair}, f, ok, joinedStates(net, pair))
			twice, ok := impl.ApartFamilies(f, f)
			if !ok {
				t.Fatal("no family", net, pair, f)
			}
			for state := range states(net) {
				there := slices.DeleteFunc(otherPaths(net, pair[0], pair[1]), func(path int) bool { return !allOf(state, path) })
				if impl.InOk(twice, state) != (otherApart(there, 0) >= 2) {
					t.Fatal("joined by two paths apart, or not", net, pair, state, twice)
				}
			}
		}
	}
}

func TestPathFamilyExamples(t *testing.T) {
	for _, c := range []struct {
		net   impl.Net
		a     int
		b     int
		least []int
	}{
		{kite(), 1, 4, []int{11, 12}},
		{kite(), 4, 1, []int{11, 12}},
		{kite(), 1, 3, []int{3, 4}},
		{netOf(2), 1, 2, nil},
		{netOf(6), 6, 3, nil},
		{netOf(4, [2]int{1, 2}, [2]int{3, 4}), 1, 3, nil},
		{netOf(4, [2]int{1, 2}, [2]int{3, 4}), 4, 3, []int{2}},
		{netOf(2, [2]int{1, 2}), 2, 1, []int{1}},
		{impl.Net{Nodes: 2, Edges: slices.Repeat(edges([2]int{1, 2}), 6)}, 1, 2, []int{1, 2, 4, 8, 16, 32}},
		{netOf(6, [2]int{1, 2}, [2]int{2, 3}, [2]int{3, 4}, [2]int{4, 5}, [2]int{5, 6}, [2]int{1, 6}), 1, 4, []int{7, 56}},
	} {
		got, ok := impl.PathFamily(c.net, c.a, c.b)
		if !ok || got.Things != len(c.net.Edges) {
			t.Fatal("no family", c, got, ok)
		}
		mustBeRow(t, "PathFamily", c, got.Least, c.least)
	}
}

func TestNetsWithoutAPathFamily(t *testing.T) {
	noPathFamily := func(net impl.Net, a, b int) {
		t.Helper()
		got, ok := impl.PathFamily(net, a, b)
		noFamily(t, "PathFamily", []any{net, a, b}, got, ok)
	}
	for _, net := range validNets() {
		for _, pair := range nodePairs(net) {
			if len(net.Edges) > impl.MaxThings {
				noPathFamily(net, pair[0], pair[1])
			}
		}
		for node := 1; node <= net.Nodes; node++ {
			noPathFamily(net, node, node)
		}
		for _, wrong := range wrongNumbers(1, net.Nodes+1) {
			noPathFamily(net, 1, wrong)
			noPathFamily(net, wrong, net.Nodes)
			noPathFamily(net, wrong, wrong)
		}
		noPathFamily(net, 0, net.Nodes+1)
		noPathFamily(net, math.MinInt, math.MaxInt)
	}
	for many := impl.MaxThings + 1; many <= impl.MaxEdges; many++ {
		noPathFamily(impl.Net{Nodes: 3, Edges: slices.Repeat(edges([2]int{1, 2}), many)}, 1, 2)
		noPathFamily(impl.Net{Nodes: 3, Edges: slices.Repeat(edges([2]int{1, 2}), many)}, 1, 3)
	}
	for _, net := range invalidNets() {
		for _, pair := range [][2]int{{1, 2}, {1, 1}, {1, net.Nodes}, {net.Nodes, 2}, {0, 1}, {math.MinInt, math.MaxInt}} {
			noPathFamily(net, pair[0], pair[1])
		}
	}
}

// tellJoined returns all families that two families make, what is none among them.
func tellJoined(f, g impl.Family) []impl.Family {
	both, _ := impl.BothFamilies(f, g)
	either, _ := impl.EitherFamily(f, g)
	apart, _ := impl.ApartFamilies(f, g)
	return []impl.Family{both, either, apart}
}

func TestJoinedFamiliesLeaveRowsAsTheyAreAndShareNoMemory(t *testing.T) {
	for _, pair := range setPairs() {
		f, memory := lentFamily(pair[0].family())
		g, memoryG := lentFamily(pair[1].family())
		shareNothing(t, pair, memory, func() []impl.Family { return tellJoined(f, g) })
		f, memory = lentFamily(pair[0].family())
		shareNothing(t, pair, memoryG, func() []impl.Family { return tellJoined(f, g) })
	}
	for _, set := range manySets() {
		f, memory := lentFamily(set.family())
		shareNothing(t, set, memory, func() []impl.Family { return tellJoined(f, f) })
	}
	for _, wrong := range wrongFamilies() {
		f, memory := lentFamily(wrong)
		shareNothing(t, wrong, memory, func() []impl.Family { return tellJoined(f, f) })
	}
}

func TestPathFamiliesLeaveNetsAsTheyAreAndShareNoMemory(t *testing.T) {
	leavesNetsAsTheyAre(t, func(net impl.Net) [][]int {
		first, _ := impl.PathFamily(net, 1, 2)
		second, _ := impl.PathFamily(net, net.Nodes, 1)
		return [][]int{first.Least, second.Least}
	})
}

func TestJoinedFamiliesKeepNoState(t *testing.T) {
	pairs := setPairs()
	var first [][]impl.Family
	for _, pair := range pairs {
		first = append(first, tellJoined(pair[0].family(), pair[1].family()))
	}
	for at, pair := range slices.Backward(pairs) {
		for i, f := range tellJoined(pair[0].family(), pair[1].family()) {
			if !sameFamily(f, first[at][i]) {
				t.Fatal("told otherwise", pair, f, first[at][i])
			}
		}
	}
	keepsNoState(t, func(net impl.Net, at int) [][]int {
		one, _ := impl.PathFamily(net, 1, 2)
		other, _ := impl.PathFamily(net, net.Nodes, at%3)
		return [][]int{one.Least, other.Least}
	})
}
