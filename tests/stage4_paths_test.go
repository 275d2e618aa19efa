package tests

import (
	"math"
	"math/bits"
	"slices"
	"testing"

	"loop.example/failingnets/impl"
)

// allOf reports whether a state has all edges of another one.
func allOf(state, part int) bool {
	return state&part == part
}

// fewestOf returns the least number of edges that are there in some state of a list; -1 if there is none.
func fewestOf(list []int) int {
	var there []int
	for _, state := range list {
		there = append(there, bits.OnesCount(uint(state)))
	}
	if len(there) == 0 {
		return -1
	}
	return slices.Min(there)
}

// otherPaths finds the paths in another way: by going on from node to node, never to one that was seen before.
func otherPaths(net impl.Net, a, b int) []int {
	var list []int
	var goOn func(node, seen, gone int)
	goOn = func(node, seen, gone int) {
		if node == b {
			list = append(list, gone)
			return
		}
		for at, edge := range net.Edges {
			if edge.A != node && edge.B != node {
				continue
			}
			next := edge.A + edge.B - node
			if seen>>next%2 == 0 {
				goOn(next, seen|1<<next, gone|1<<at)
			}
		}
	}
	goOn(a, 1<<a, 0)
	slices.Sort(list)
	return list
}

// otherCuts finds the cuts in another way: of all edges between two sides, the one with the first node, the other one with the second node, those that have not all edges of others.
func otherCuts(net impl.Net, a, b int) []int {
	var between []int
	for side := range 1 << (net.Nodes + 1) {
		if side>>a%2 == 0 || side>>b%2 == 1 || side%2 == 1 {
			continue
		}
		cut := 0
		for at, edge := range net.Edges {
			if side>>edge.A%2 != side>>edge.B%2 {
				cut |= 1 << at
			}
		}
		between = append(between, cut)
	}
	var least []int
	for _, cut := range between {
		if !slices.ContainsFunc(between, func(other int) bool { return other != cut && allOf(cut, other) }) {
			least = append(least, cut)
		}
	}
	slices.Sort(least)
	return slices.Compact(least)
}

// otherApart counts paths apart in another way: each path is taken, if no edge of it is taken, or left.
func otherApart(paths []int, taken int) int {
	if len(paths) == 0 {
		return 0
	}
	most := otherApart(paths[1:], taken)
	if paths[0]&taken == 0 {
		most = max(most, 1+otherApart(paths[1:], taken|paths[0]))
	}
	return most
}

// neverJoined reports whether two nodes are not joined if all edges are there.
func neverJoined(net impl.Net, pair [2]int) bool {
	return !impl.JoinedOk(net, states(net)-1, pair[0], pair[1])
}

// mustBeLeast fails a test unless states are in ascending order, and none has all edges of another one.
func mustBeLeast(t *testing.T, what string, net impl.Net, pair [2]int, list []int) {
	t.Helper()
	for i, state := range list {
		if i > 0 && list[i-1] >= state {
			t.Fatal("not ascending", what, net, pair, list)
		}
		for _, other := range list[:i] {
			if allOf(state, other) || allOf(other, state) {
				t.Fatal("all edges of another one", what, net, pair, list)
			}
		}
	}
}

func TestPromise17StatesThatWorkHaveAPath(t *testing.T) {
	for _, net := range validNets() {
		for _, pair := range nodePairs(net) {
			paths, cuts := impl.PathsOf(net, pair[0], pair[1]), impl.CutsOf(net, pair[0], pair[1])
			mustBeLeast(t, "paths", net, pair, paths)
			for state := range states(net) {
				works := slices.ContainsFunc(paths, func(path int) bool { return allOf(state, path) })
				if works != impl.JoinedOk(net, state, pair[0], pair[1]) {
					t.Fatal("joined without a path, or not with one", net, pair, state, paths)
				}
			}
			for _, path := range paths {
				if slices.ContainsFunc(cuts, func(cut int) bool { return path&cut == 0 }) {
					t.Fatal("nothing in common", net, pair, path, cuts)
				}
			}
		}
	}
}

func TestPromise18StatesThatWorkMeetEachCut(t *testing.T) {
	for _, net := range validNets() {
		for _, pair := range nodePairs(net) {
			cuts := impl.CutsOf(net, pair[0], pair[1])
			mustBeLeast(t, "cuts", net, pair, cuts)
			for state := range states(net) {
				fails := slices.ContainsFunc(cuts, func(cut int) bool { return state&cut == 0 })
				if fails == impl.JoinedOk(net, state, pair[0], pair[1]) {
					t.Fatal("joined without an edge of a cut, or not with one of each", net, pair, state, cuts)
				}
			}
			if slices.Equal(cuts, []int{0}) != neverJoined(net, pair) {
				t.Fatal("the only cut has no edges", net, pair, cuts)
			}
		}
	}
}

func TestPromise19NoPathIsShorter(t *testing.T) {
	for _, net := range validNets() {
		for _, pair := range nodePairs(net) {
			got := impl.ShortestOf(net, pair[0], pair[1])
			if got >= net.Nodes {
				t.Fatal("as long as the nodes", net, pair, got)
			}
			row := impl.JoiningCounts(net, pair[0], pair[1])
			mustBe(t, "ShortestOf", net, got, slices.IndexFunc(row, func(count int) bool { return count > 0 }))
			mustBe(t, "the path with the fewest edges", net, fewestOf(impl.PathsOf(net, pair[0], pair[1])), got)
		}
	}
}

func TestPromise20AsManyPathsApartAsTheThinnestCutHasEdges(t *testing.T) {
	for _, net := range validNets() {
		for _, pair := range nodePairs(net) {
			got := impl.ThinnestOf(net, pair[0], pair[1])
			mustBe(t, "ThinnestOf", net, got, impl.ApartPaths(net, pair[0], pair[1]))
			mustBe(t, "the cut with the fewest edges", net, fewestOf(impl.CutsOf(net, pair[0], pair[1])), got)
			if got > impl.EdgesAt(net, pair[0]) || got > impl.EdgesAt(net, pair[1]) {
				t.Fatal("more than the edges at a node", net, pair, got)
			}
		}
	}
}

func TestPromise21PathsApartHaveEdgesOfTheirOwn(t *testing.T) {
	for _, net := range validNets() {
		for _, pair := range nodePairs(net) {
			got, shortest := impl.ApartPaths(net, pair[0], pair[1]), impl.ShortestOf(net, pair[0], pair[1])
			if shortest != -1 && got*shortest > len(net.Edges) {
				t.Fatal("more edges than there are", net, pair, got, shortest)
			}
			mustBe(t, "both exchanged", net, impl.ApartPaths(net, pair[1], pair[0]), got)
			if (got == 0) != neverJoined(net, pair) || (shortest == -1) != neverJoined(net, pair) {
				t.Fatal("never joined", net, pair, got, shortest)
			}
		}
	}
}

// tieCase is what chapter 4 tells of a net and two of its nodes.
type tieCase struct {
	net      impl.Net
	a        int
	b        int
	paths    []int
	cuts     []int
	shortest int
	thinnest int
	apart    int
}

// check fails a test unless all is told of a net as its case has it, for both nodes and for both exchanged.
func (c tieCase) check(t *testing.T) {
	t.Helper()
	for _, pair := range [][2]int{{c.a, c.b}, {c.b, c.a}} {
		about := []any{c.net, pair}
		mustBeRow(t, "PathsOf", about, impl.PathsOf(c.net, pair[0], pair[1]), c.paths)
		mustBeRow(t, "CutsOf", about, impl.CutsOf(c.net, pair[0], pair[1]), c.cuts)
		mustBeRow(t, "ShortestOf, ThinnestOf and ApartPaths", about,
			[]int{impl.ShortestOf(c.net, pair[0], pair[1]), impl.ThinnestOf(c.net, pair[0], pair[1]), impl.ApartPaths(c.net, pair[0], pair[1])},
			[]int{c.shortest, c.thinnest, c.apart})
	}
}

// notTied returns the case of two different nodes that are never joined.
func notTied(net impl.Net, pair [2]int) tieCase {
	return tieCase{net, pair[0], pair[1], nil, []int{0}, -1, 0, 0}
}

// foundOtherwise returns the case of two different nodes, each part of it found in another way.
func foundOtherwise(net impl.Net, a, b int) tieCase {
	paths, cuts := otherPaths(net, a, b), otherCuts(net, a, b)
	return tieCase{net, a, b, paths, cuts, fewestOf(paths), fewestOf(cuts), otherApart(paths, 0)}
}

// noTies fails a test unless each function of chapter 4 returns its fixed result, either way.
func noTies(t *testing.T, net impl.Net, a, b int) {
	t.Helper()
	tieCase{net, a, b, nil, nil, -1, -1, -1}.check(t)
}

func TestPathsAndCutsAreThoseFoundOtherwise(t *testing.T) {
	for _, net := range validNets() {
		for _, edge := range allPairs(net.Nodes) {
			foundOtherwise(net, edge.A, edge.B).check(t)
		}
	}
}

func TestPathExamples(t *testing.T) {
	bridge := netOf(4, [2]int{1, 2}, [2]int{1, 3}, [2]int{2, 3}, [2]int{2, 4}, [2]int{3, 4})
	// The first path of all, over both middle nodes, has an edge in common with each other one.
	crossed := netOf(4, [2]int{1, 2}, [2]int{2, 3}, [2]int{3, 4}, [2]int{1, 3}, [2]int{2, 4})
	// Of two ways, of one edge and of five, both are paths: none has all edges of the other one.
	ring := netOf(6, [2]int{1, 2}, [2]int{2, 3}, [2]int{3, 4}, [2]int{4, 5}, [2]int{5, 6}, [2]int{1, 6})
	for _, c := range []tieCase{
		{kite(), 1, 4, []int{11, 12}, []int{5, 6, 8}, 2, 1, 1},
		{kite(), 1, 3, []int{3, 4}, []int{5, 6}, 1, 2, 2},
		{kite(), 1, 2, []int{1, 6}, []int{3, 5}, 1, 2, 2},
		{kite(), 2, 4, []int{10, 13}, []int{3, 6, 8}, 2, 1, 1},
		{kite(), 3, 4, []int{8}, []int{8}, 1, 1, 1},
		{bridge, 1, 4, []int{9, 14, 18, 21}, []int{3, 14, 21, 24}, 2, 2, 2},
		{bridge, 2, 3, []int{3, 4, 24}, []int{13, 14, 21, 22}, 1, 3, 3},
		{crossed, 1, 4, []int{7, 12, 17, 26}, []int{7, 9, 20, 26}, 2, 2, 2},
		{ring, 1, 4, []int{7, 56}, []int{9, 10, 12, 17, 18, 20, 33, 34, 36}, 3, 2, 2},
		{ring, 1, 6, []int{31, 32}, []int{33, 34, 36, 40, 48}, 1, 2, 2},
		{netOf(3, [2]int{1, 2}, [2]int{1, 2}, [2]int{2, 3}, [2]int{2, 3}), 1, 3, []int{5, 6, 9, 10}, []int{3, 12}, 2, 2, 2},
	} {
		c.check(t)
	}
}

func TestNodesThatAreNeverJoined(t *testing.T) {
	for nodes := 2; nodes <= impl.MaxNodes; nodes++ {
		for _, none := range [][]impl.Edge{nil, {}} {
			net := impl.Net{Nodes: nodes, Edges: none}
			for _, pair := range nodePairs(net) {
				notTied(net, pair).check(t)
			}
		}
	}
	apart := netOf(6, [2]int{1, 5}, [2]int{3, 5}, [2]int{1, 3}, [2]int{2, 6}, [2]int{2, 4}, [2]int{4, 6}, [2]int{1, 3}, [2]int{2, 4}, [2]int{3, 5})
	for _, pair := range nodePairs(apart) {
		if pair[0]%2 != pair[1]%2 {
			notTied(apart, pair).check(t)
		}
	}
	found := 0
	for _, net := range validNets() {
		for _, pair := range nodePairs(net) {
			if neverJoined(net, pair) {
				notTied(net, pair).check(t)
				found++
			}
		}
	}
	if found < 100 {
		t.Fatal("too few nodes that are never joined", found)
	}
}

func TestPathsAndCutsOfOneEdge(t *testing.T) {
	for nodes := 2; nodes <= impl.MaxNodes; nodes++ {
		for _, edge := range allPairs(nodes) {
			net := impl.Net{Nodes: nodes, Edges: []impl.Edge{edge}}
			for _, pair := range nodePairs(net) {
				if min(pair[0], pair[1]) == edge.A && max(pair[0], pair[1]) == edge.B {
					tieCase{net, pair[0], pair[1], []int{1}, []int{1}, 1, 1, 1}.check(t)
				} else {
					notTied(net, pair).check(t)
				}
			}
		}
	}
}

func TestPathsAndCutsOfEdgesWithTheSameEnds(t *testing.T) {
	for nodes := 2; nodes <= impl.MaxNodes; nodes++ {
		for _, edge := range allPairs(nodes) {
			var paths []int
			for many := 1; many <= impl.MaxEdges; many++ {
				paths = append(paths, 1<<(many-1))
				net := impl.Net{Nodes: nodes, Edges: slices.Repeat([]impl.Edge{edge}, many)}
				tieCase{net, edge.A, edge.B, paths, []int{1<<many - 1}, 1, many, many}.check(t)
			}
		}
	}
}

func TestPathsOfManyEdgesOneAfterTheOther(t *testing.T) {
	for _, order := range allOrders(impl.MaxNodes - 1) {
		tieCase{ladder(order), 1, impl.MaxNodes, []int{31}, []int{1, 2, 4, 8, 16}, 5, 1, 1}.check(t)
	}
	// Edges with the same ends, 4 and 5 of them one after the other: each two make a path.
	net := impl.Net{Nodes: 3, Edges: append(slices.Repeat(edges([2]int{1, 2}), 4), slices.Repeat(edges([2]int{2, 3}), 5)...)}
	var paths []int
	for second := range 5 {
		for first := range 4 {
			paths = append(paths, 1<<first|16<<second)
		}
	}
	tieCase{net, 1, 3, paths, []int{15, 496}, 2, 4, 4}.check(t)
}

func TestPathsAndCutsOfTheGreatestNets(t *testing.T) {
	// Between two of both threes 1 path has one edge, 4 have three, and 4 have five.
	threes := threesNet()
	tieCase{threes, 1, 4, []int{1, 26, 44, 194, 244, 324, 370, 412, 426}, otherCuts(threes, 1, 4), 1, 3, 3}.check(t)
	tieCase{threes, 1, 2, otherPaths(threes, 1, 2), otherCuts(threes, 1, 2), 2, 3, 3}.check(t)
	mustBe(t, "paths between two of a side", threes, len(impl.PathsOf(threes, 1, 2)), 9)
	for _, edge := range allPairs(impl.MaxNodes) {
		foundOtherwise(fullNet(), edge.A, edge.B).check(t)
	}
}

func TestWrongNodesHaveNoPathsAndCuts(t *testing.T) {
	for _, net := range validNets() {
		for node := 1; node <= net.Nodes; node++ {
			noTies(t, net, node, node)
		}
		for _, wrong := range wrongNumbers(1, net.Nodes+1) {
			noTies(t, net, 1, wrong)
			noTies(t, net, net.Nodes, wrong)
			noTies(t, net, wrong, wrong)
		}
		noTies(t, net, 0, net.Nodes+1)
		noTies(t, net, math.MinInt, math.MaxInt)
	}
}

func TestInvalidNetsHaveNoPathsAndCuts(t *testing.T) {
	for _, net := range invalidNets() {
		for _, pair := range [][2]int{{1, 2}, {1, 1}, {1, net.Nodes}, {net.Nodes, 2}, {0, 1}, {math.MinInt, math.MaxInt}} {
			noTies(t, net, pair[0], pair[1])
		}
	}
}

// tellTies returns all that chapter 4 tells of a net and two nodes.
func tellTies(net impl.Net, a, b int) [][]int {
	return [][]int{impl.PathsOf(net, a, b), impl.CutsOf(net, a, b), {impl.ShortestOf(net, a, b), impl.ThinnestOf(net, a, b), impl.ApartPaths(net, a, b)}}
}

func TestPathsAndCutsLeaveNetsAsTheyAreAndShareNoMemory(t *testing.T) {
	leavesNetsAsTheyAre(t, func(net impl.Net) [][]int {
		return append(tellTies(net, 1, 2), tellTies(net, net.Nodes, 1)...)
	})
}

func TestPathsAndCutsKeepNoState(t *testing.T) {
	keepsNoState(t, func(net impl.Net, at int) [][]int {
		return append(tellTies(net, 1, 2), tellTies(net, net.Nodes, at%3)...)
	})
}
