package tests

import (
	"math"
	"math/bits"
	"math/rand"
	"slices"
	"testing"

	"loop.example/failingnets/impl"
)

// treeNets returns nets of all kinds, those that are a tree themselves and those that have the most trees among them.
func treeNets() []impl.Net {
	list := append(validNets(), kite(), fullNet(), threesNet(), prism(), wheel())
	for _, order := range [][]int{{0, 1, 2, 3, 4}, {4, 3, 2, 1, 0}, {2, 0, 4, 1, 3}} {
		list = append(list, ladder(order))
	}
	for nodes := 2; nodes <= impl.MaxNodes; nodes++ {
		list = append(list, star(nodes), impl.Net{Nodes: nodes, Edges: allPairs(min(nodes, 4))}, ringNet(nodes))
		slices.Reverse(list[len(list)-1].Edges)
	}
	return append(list, netOf(6, [2]int{1, 5}, [2]int{3, 5}, [2]int{1, 3}, [2]int{2, 6}, [2]int{2, 4}, [2]int{4, 6}))
}

// star is the net in which just the first node has an edge to each other one.
func star(nodes int) impl.Net {
	return impl.Net{Nodes: nodes, Edges: allPairs(nodes)[:nodes-1]}
}

// ringNet is one ring of so many nodes, which has two edges with the same ends for two nodes.
func ringNet(nodes int) impl.Net {
	net := impl.Net{Nodes: nodes, Edges: edges([2]int{1, nodes})}
	for node := 1; node < nodes; node++ {
		net.Edges = append(net.Edges, impl.Edge{A: node, B: node + 1})
	}
	return net
}

// prism is two rings of three nodes, each node of the one with an edge to one of the other.
func prism() impl.Net {
	return netOf(6, [2]int{1, 2}, [2]int{2, 3}, [2]int{1, 3}, [2]int{4, 5}, [2]int{5, 6}, [2]int{4, 6}, [2]int{1, 4}, [2]int{2, 5}, [2]int{3, 6})
}

// wheel is a ring of four nodes, each with an edge to a fifth one.
func wheel() impl.Net {
	return netOf(5, [2]int{1, 2}, [2]int{2, 3}, [2]int{3, 4}, [2]int{1, 4}, [2]int{1, 5}, [2]int{2, 5}, [2]int{3, 5}, [2]int{4, 5})
}

// otherTrees finds the trees among all states, by ways instead of pieces.
func otherTrees(net impl.Net) []int {
	var list []int
	for state := range states(net) {
		if bits.OnesCount(uint(state)) == net.Nodes-1 && waysIn(net, state).pieces(net.Nodes) == 1 {
			list = append(list, state)
		}
	}
	return list
}

// otherRing finds the ring of a state that has one: again and again what alone ends at some node is left out.
func otherRing(net impl.Net, state int) int {
	for {
		before := state
		for node := 1; node <= net.Nodes; node++ {
			ends := slices.DeleteFunc(present(net, state), func(at int) bool { return net.Edges[at].A != node && net.Edges[at].B != node })
			if len(ends) == 1 {
				state &^= 1 << ends[0]
			}
		}
		if state == before {
			return state
		}
	}
}

// otherCut finds all edges with one end on the side of the lesser end of an edge, and the other end on the other side, where the state of a tree without the edge has both sides.
func otherCut(net impl.Net, tree, at int) int {
	side := waysIn(net, tree&^(1<<at))[net.Edges[at].A]
	cut := 0
	for other, edge := range net.Edges {
		if side[edge.A] != side[edge.B] {
			cut |= 1 << other
		}
	}
	return cut
}

// isRing fails a test unless a tree has such a ring with an edge.
func isRing(t *testing.T, net impl.Net, tree, at, want int) {
	t.Helper()
	if got, ok := impl.RingWith(net, tree, at); !ok || got != want {
		t.Fatalf("ring of %v, tree %d, with %d: %d, %v, not %d", net, tree, at, got, ok, want)
	}
}

// isCut fails a test unless a tree has such a cut without an edge.
func isCut(t *testing.T, net impl.Net, tree, at, want int) {
	t.Helper()
	if got, ok := impl.CutWith(net, tree, at); !ok || got != want {
		t.Fatalf("cut of %v, tree %d, without %d: %d, %v, not %d", net, tree, at, got, ok, want)
	}
}

// noRing fails a test if there is a ring, and noCut if there is a cut.
func noRing(t *testing.T, net impl.Net, tree, at int) {
	t.Helper()
	if got, ok := impl.RingWith(net, tree, at); ok || got != -1 {
		t.Fatal("a ring", net, tree, at, got, ok)
	}
}

func noCut(t *testing.T, net impl.Net, tree, at int) {
	t.Helper()
	if got, ok := impl.CutWith(net, tree, at); ok || got != -1 {
		t.Fatal("a cut", net, tree, at, got, ok)
	}
}

// noTree fails a test if a state is a tree, or has a ring or a cut with the edge at any of some places.
func noTree(t *testing.T, net impl.Net, state int) {
	t.Helper()
	if impl.TreeOk(net, state) {
		t.Fatal("a tree", net, state)
	}
	for _, at := range append(wrongNumbers(0, len(net.Edges)), 0, 1, len(net.Edges)-1) {
		noRing(t, net, state, at)
		noCut(t, net, state, at)
	}
	for at := range net.Edges {
		noRing(t, net, state, at)
		noCut(t, net, state, at)
	}
}

func TestPromise52TreesAreCountedByATable(t *testing.T) {
	for _, net := range treeNets() {
		trees := impl.TreesOf(net)
		mustBeRow(t, "TreesOf", net, trees, otherTrees(net))
		count, ok := impl.FoldOf(impl.TableOf(net))
		if !ok || count != len(trees) {
			t.Fatal("counted by the table", net, count, ok, trees)
		}
		counts := impl.WholeCounts(net)
		if net.Nodes-1 < len(counts) {
			mustBe(t, "WholeCounts", net, len(trees), counts[net.Nodes-1])
		} else {
			mustBe(t, "trees of too few edges", net, len(trees), 0)
		}
		for _, tree := range trees {
			if !impl.RingFreeOk(net, tree) {
				t.Fatal("a tree with a ring", net, tree)
			}
		}
	}
}

func TestPromise55TreesAreLeastAndGreatest(t *testing.T) {
	for _, net := range treeNets() {
		trees := otherTrees(net)
		for state := range states(net) {
			got := impl.TreeOk(net, state)
			if got != slices.Contains(trees, state) || got != (impl.WholeOk(net, state) && impl.RingFreeOk(net, state)) {
				t.Fatal("TreeOk", net, state, got)
			}
			if !got {
				continue
			}
			for _, at := range present(net, state) {
				if impl.WholeOk(net, state&^(1<<at)) {
					t.Fatal("whole without an edge", net, state, at)
				}
			}
			for _, at := range lacking(net, state) {
				if impl.RingFreeOk(net, state|1<<at) {
					t.Fatal("without a ring with a further edge", net, state, at)
				}
			}
		}
	}
}

func TestPromise56EachEdgeOfTheRingMayBeLeftOut(t *testing.T) {
	for _, net := range treeNets() {
		for _, tree := range otherTrees(net) {
			for _, at := range lacking(net, tree) {
				with := tree | 1<<at
				ring := otherRing(net, with)
				isRing(t, net, tree, at, ring)
				for _, other := range present(net, with) {
					if impl.TreeOk(net, with&^(1<<other)) != (ring>>other%2 == 1) {
						t.Fatal("left out", net, tree, at, other)
					}
				}
				if !allOf(with, ring) || !allOf(ring, 1<<at) || bits.OnesCount(uint(ring)) < 2 {
					t.Fatal("no ring of the tree and the edge", net, tree, at, ring)
				}
			}
		}
	}
}

func TestPromise57RingsAndCutsMeetInTwos(t *testing.T) {
	for _, net := range treeNets() {
		for _, tree := range otherTrees(net) {
			for _, at := range present(net, tree) {
				cut := otherCut(net, tree, at)
				isCut(t, net, tree, at, cut)
				for other := range net.Edges {
					if impl.TreeOk(net, tree&^(1<<at)|1<<other) != (cut>>other%2 == 1) {
						t.Fatal("instead of the edge", net, tree, at, other)
					}
				}
				for _, other := range lacking(net, tree) {
					ring, ok := impl.RingWith(net, tree, other)
					if !ok || (ring>>at%2 == 1) != (cut>>other%2 == 1) {
						t.Fatal("in the ring, and not in the cut", net, tree, at, other, ring, cut)
					}
					if bits.OnesCount(uint(ring&cut))%2 == 1 {
						t.Fatal("not in twos", net, tree, at, other, ring, cut)
					}
				}
			}
		}
	}
}

func TestPromise62EdgesOfTwoTreesMayBeExchangedBothWays(t *testing.T) {
	draw := rand.New(rand.NewSource(9))
	for _, net := range treeNets() {
		trees := impl.TreesOf(net)
		if len(trees) == 0 {
			continue
		}
		drawn := trees[draw.Intn(len(trees))]
		for _, other := range trees {
			exchangedBothWays(t, net, trees[0], other)
			exchangedBothWays(t, net, other, drawn)
		}
	}
}

// exchangedBothWays fails a test unless each edge of a tree that another one has not may be exchanged for an edge of that one so that both are trees again.
func exchangedBothWays(t *testing.T, net impl.Net, tree, other int) {
	t.Helper()
	for _, at := range present(net, tree&^other) {
		fits := func(instead int) bool {
			both := 1<<at | 1<<instead
			return impl.TreeOk(net, tree^both) && impl.TreeOk(net, other^both)
		}
		if !slices.ContainsFunc(present(net, other&^tree), fits) {
			t.Fatal("not exchanged both ways", net, tree, other, at)
		}
	}
}

func TestPromise63TreesAreWithAnEdgeOrWithoutIt(t *testing.T) {
	for _, net := range treeNets() {
		if net.Nodes < 3 {
			continue
		}
		trees := impl.TreesOf(net)
		for at := range net.Edges {
			without, ok := impl.WithoutEdge(net, at)
			one, _, made := impl.MadeOne(net, at)
			if !ok || !made {
				t.Fatal("an edge that is none", net, at)
			}
			mustBe(t, "with the edge, or without it", net, len(impl.TreesOf(without))+len(impl.TreesOf(one)), len(trees))
			with := slices.DeleteFunc(slices.Clone(trees), func(tree int) bool { return tree>>at%2 == 0 })
			mustBe(t, "with the edge", net, len(impl.TreesOf(one)), len(with))
		}
	}
}

// treeCase is a net, and its trees.
type treeCase struct {
	net   impl.Net
	trees []int
}

func TestTreeExamples(t *testing.T) {
	for _, c := range []treeCase{
		{kite(), []int{11, 13, 14}},
		{netOf(3, [2]int{1, 2}, [2]int{2, 3}, [2]int{1, 3}), []int{3, 5, 6}},
		{netOf(3, [2]int{1, 2}, [2]int{1, 2}, [2]int{2, 3}), []int{5, 6}},
		{netOf(3, [2]int{1, 2}, [2]int{1, 2}, [2]int{1, 2}), nil},
		{netOf(4, [2]int{1, 2}, [2]int{3, 4}, [2]int{1, 2}), nil},
		{netOf(4, [2]int{1, 2}, [2]int{2, 3}, [2]int{1, 3}), nil},
		{netOf(2, [2]int{1, 2}), []int{1}},
		{netOf(2, [2]int{1, 2}, [2]int{1, 2}, [2]int{1, 2}), []int{1, 2, 4}},
		{ringNet(6), []int{31, 47, 55, 59, 61, 62}},
		{star(6), []int{31}},
		{ladder([]int{3, 1, 4, 0, 2}), []int{31}},
		{netOf(6, [2]int{1, 2}, [2]int{2, 3}, [2]int{1, 3}, [2]int{4, 5}, [2]int{5, 6}, [2]int{4, 6}), nil},
	} {
		mustBeRow(t, "TreesOf", c.net, impl.TreesOf(c.net), c.trees)
	}
	mustBe(t, "trees of the threes", threesNet(), len(impl.TreesOf(threesNet())), 81)
	mustBe(t, "trees of the prism", prism(), len(impl.TreesOf(prism())), 75)
	mustBe(t, "trees of the wheel", wheel(), len(impl.TreesOf(wheel())), 45)
	four := impl.Net{Nodes: 4, Edges: allPairs(4)}
	mustBe(t, "trees of four nodes", four, len(impl.TreesOf(four)), 16)
}

func TestRingAndCutExamples(t *testing.T) {
	isRing(t, kite(), 11, 2, 7)
	isRing(t, kite(), 13, 1, 7)
	isRing(t, kite(), 14, 0, 7)
	isCut(t, kite(), 11, 0, 5)
	isCut(t, kite(), 11, 1, 6)
	isCut(t, kite(), 11, 3, 8)
	isCut(t, kite(), 14, 1, 3)
	isCut(t, kite(), 14, 2, 5)
	// The way 1-4-2-5-3-6 over the threes, and three edges beside it.
	isRing(t, threesNet(), 1|8|16|128|256, 1, 1|8|16|2)
	isRing(t, threesNet(), 1|8|16|128|256, 2, 1|8|16|128|256|4)
	isRing(t, threesNet(), 1|8|16|128|256, 5, 16|128|256|32)
	isCut(t, threesNet(), 1|8|16|128|256, 4, 16|2|4|32|64)
	isCut(t, threesNet(), 1|8|16|128|256, 0, 1|2|4)
	isCut(t, threesNet(), 1|8|16|128|256, 8, 256|4|32)
}

func TestNetsOfTwoNodesHaveTreesOfOneEdge(t *testing.T) {
	for many := range impl.MaxEdges + 1 {
		net := impl.Net{Nodes: 2, Edges: slices.Repeat(edges([2]int{1, 2}), many)}
		var want []int
		for at := range many {
			want = append(want, 1<<at)
		}
		mustBeRow(t, "TreesOf", net, impl.TreesOf(net), want)
		for at, tree := range want {
			isCut(t, net, tree, at, states(net)-1)
			for _, other := range lacking(net, tree) {
				isRing(t, net, tree, other, tree|1<<other)
			}
		}
	}
}

func TestEdgesWithTheSameEndsAreEachARingWithOneAnother(t *testing.T) {
	for nodes := 3; nodes <= impl.MaxNodes; nodes++ {
		// Each edge of a star comes twice, as long as there may be so many.
		net := star(nodes)
		net.Edges = append(net.Edges, net.Edges[:min(nodes-1, impl.MaxEdges-nodes+1)]...)
		first := 1<<(nodes-1) - 1
		for other := nodes - 1; other < len(net.Edges); other++ {
			at := other - (nodes - 1)
			both := 1<<at | 1<<other
			isRing(t, net, first, other, both)
			isCut(t, net, first, at, both)
			isRing(t, net, first^both, at, both)
			isCut(t, net, first^both, other, both)
		}
		for _, tree := range impl.TreesOf(net) {
			for at := range nodes - 1 {
				if other := at + nodes - 1; other < len(net.Edges) && tree>>at%2 == tree>>other%2 {
					t.Fatal("both, or neither", net, tree, at, other)
				}
			}
		}
	}
}

func TestNetsThatAreNotWholeHaveNoTree(t *testing.T) {
	for _, net := range treeNets() {
		if waysIn(net, states(net)-1).pieces(net.Nodes) == 1 {
			continue
		}
		mustBeRow(t, "TreesOf", net, impl.TreesOf(net), nil)
		for state := range states(net) {
			if impl.TreeOk(net, state) {
				t.Fatal("a tree", net, state)
			}
		}
		noTree(t, net, states(net)-1)
	}
	for nodes := 2; nodes <= impl.MaxNodes; nodes++ {
		for _, none := range [][]impl.Edge{nil, {}} {
			net := impl.Net{Nodes: nodes, Edges: none}
			mustBeRow(t, "TreesOf", net, impl.TreesOf(net), nil)
			for _, state := range append(wrongNumbers(0, 1), 0) {
				noTree(t, net, state)
			}
		}
	}
}

func TestNetsThatAreATreeHaveOne(t *testing.T) {
	list := []impl.Net{netOf(5, [2]int{1, 3}, [2]int{3, 5}, [2]int{2, 3}, [2]int{4, 5})}
	for nodes := 2; nodes <= impl.MaxNodes; nodes++ {
		list = append(list, star(nodes))
	}
	for _, order := range allOrders(impl.MaxNodes - 1) {
		list = append(list, ladder(order))
	}
	for _, net := range list {
		all := states(net) - 1
		mustBeRow(t, "TreesOf", net, impl.TreesOf(net), []int{all})
		for at := range net.Edges {
			isCut(t, net, all, at, 1<<at)
			noRing(t, net, all, at)
		}
	}
}

func TestWhatIsNoTreeHasNoRingAndNoCut(t *testing.T) {
	for _, net := range treeNets() {
		trees := otherTrees(net)
		list := append(wrongNumbers(0, states(net)), states(net)|1, math.MinInt|(states(net)-1))
		for _, tree := range trees {
			list = append(list, tree|states(net), tree-states(net), tree|1<<62)
		}
		if len(net.Edges) < impl.MaxEdges {
			for state := range states(net) {
				if !slices.Contains(trees, state) {
					list = append(list, state)
				}
			}
		}
		for _, state := range list {
			noTree(t, net, state)
		}
	}
}

func TestRingsAndCutsOfWrongPlaces(t *testing.T) {
	for _, net := range treeNets() {
		for _, tree := range otherTrees(net) {
			for _, at := range append(wrongNumbers(0, len(net.Edges)), 62, 63, 64, -64) {
				noRing(t, net, tree, at)
				noCut(t, net, tree, at)
			}
			for _, at := range present(net, tree) {
				noRing(t, net, tree, at)
			}
			for _, at := range lacking(net, tree) {
				noCut(t, net, tree, at)
			}
		}
	}
}

func TestInvalidNetsHaveNoTrees(t *testing.T) {
	for _, net := range invalidNets() {
		mustBeRow(t, "TreesOf", net, impl.TreesOf(net), nil)
		for _, state := range []int{math.MinInt, -1, 0, 1, 2, 3, 4, 7, 511, 512, 1 << 62, math.MaxInt} {
			if impl.TreeOk(net, state) {
				t.Fatal("a tree", net, state)
			}
			for _, at := range []int{math.MinInt, -1, 0, 1, 2, 9, 63, 64, math.MaxInt} {
				noRing(t, net, state, at)
				noCut(t, net, state, at)
			}
		}
	}
}

// tellTrees returns all that is told of the trees of a net, and of a state.
func tellTrees(net impl.Net, state int) [][]int {
	told := [][]int{impl.TreesOf(net)}
	if impl.TreeOk(net, state) {
		told = append(told, []int{state})
	}
	for at := range min(len(net.Edges), 10) {
		ring, _ := impl.RingWith(net, state, at)
		cut, _ := impl.CutWith(net, state, at)
		told = append(told, []int{ring, cut})
	}
	return told
}

// lastTree returns the last tree of a net, and -1 if there is none.
func lastTree(net impl.Net) int {
	if trees := impl.TreesOf(net); len(trees) > 0 {
		return trees[len(trees)-1]
	}
	return -1
}

func TestTreesLeaveNetsAsTheyAreAndShareNoMemory(t *testing.T) {
	leavesNetsAsTheyAre(t, func(net impl.Net) [][]int { return tellTrees(net, lastTree(net)) })
}

func TestTreesKeepNoState(t *testing.T) {
	keepsNoState(t, func(net impl.Net, at int) [][]int {
		return append(tellTrees(net, lastTree(net)), tellTrees(net, at%64)...)
	})
}
