package tests

import (
	"math"
	"slices"
	"testing"

	"loop.example/failingnets/impl"
)

// isPivot fails a test if it is not told as wanted whether an edge is a pivot for two nodes, in a state with the edge and in the same state without it.
func isPivot(t *testing.T, net impl.Net, pair [2]int, state, at int, want bool) {
	t.Helper()
	edge := 1 << at
	for _, one := range []int{state | edge, state &^ edge} {
		if impl.PivotOk(net, pair[0], pair[1], one, at) != want {
			t.Fatal("PivotOk", net, pair, one, at, !want)
		}
	}
}

// notPivot fails a test if an edge is a pivot for two nodes in a state, either way.
func notPivot(t *testing.T, net impl.Net, a, b, state, at int) {
	t.Helper()
	if impl.PivotOk(net, a, b, state, at) || impl.PivotOk(net, b, a, state, at) {
		t.Fatal("a pivot", net, a, b, state, at)
	}
}

// otherPivot finds pivots in another way: without the edge both nodes are apart, and each of them is joined to another end of it.
func otherPivot(net impl.Net, pair [2]int, state, at int) bool {
	edge := net.Edges[at]
	w := waysIn(net, state&^(1<<at))
	a, b := pair[0], pair[1]
	return !w[a][b] && (w[a][edge.A] && w[b][edge.B] || w[a][edge.B] && w[b][edge.A])
}

// meetAt reports whether some state of a list has an edge.
func meetAt(list []int, at int) bool {
	return slices.ContainsFunc(list, func(state int) bool { return state>>at%2 == 1 })
}

// countAt returns the number at a place of a row, 0 behind its end.
func countAt(row []int, at int) int {
	if at >= len(row) {
		return 0
	}
	return row[at]
}

// pairsFor returns each two different nodes of a small net, and some of a great one.
func pairsFor(net impl.Net) [][2]int {
	if len(net.Edges) > 5 {
		return somePairs(net)
	}
	return nodePairs(net)
}

func TestPromise27PivotsAreOnAPathAndInACut(t *testing.T) {
	for _, net := range validNets() {
		for _, pair := range pairsFor(net) {
			paths, cuts := impl.PathsOf(net, pair[0], pair[1]), impl.CutsOf(net, pair[0], pair[1])
			for at := range net.Edges {
				for state := range states(net) {
					want := otherPivot(net, pair, state, at)
					isPivot(t, net, pair, state, at, want)
					if want && (!meetAt(paths, at) || !meetAt(cuts, at)) {
						t.Fatal("a pivot on no path, or in no cut", net, pair, state, at)
					}
				}
			}
		}
	}
}

func TestPivotsAreTheOnlyWay(t *testing.T) {
	for _, net := range []impl.Net{kite(), threesNet(), fullNet(), ladder([]int{3, 0, 4, 1, 2})} {
		for _, pair := range nodePairs(net) {
			paths := otherPaths(net, pair[0], pair[1])
			for state := range states(net) {
				for at := range net.Edges {
					// With the edge there is a path, and each one there is has the edge.
					there := state | 1<<at
					var kept []int
					for _, path := range paths {
						if allOf(there, path) {
							kept = append(kept, path)
						}
					}
					without := slices.ContainsFunc(kept, func(path int) bool { return path>>at%2 == 0 })
					isPivot(t, net, pair, state, at, len(kept) > 0 && !without)
				}
			}
		}
	}
}

func TestPromise28PivotsAreStatesWithTheEdgeLessThoseWithoutIt(t *testing.T) {
	for _, net := range validNets() {
		for _, pair := range pairsFor(net) {
			all := impl.JoiningCounts(net, pair[0], pair[1])
			for at := range net.Edges {
				less, _ := impl.WithoutEdge(net, at)
				without := impl.JoiningCounts(less, pair[0], pair[1])
				var want []int
				for others := range net.Edges {
					with := all[others+1] - countAt(without, others+1)
					want = append(want, with-without[others])
				}
				mustBeRow(t, "PivotCounts", []any{net, pair, at}, impl.PivotCounts(net, pair[0], pair[1], at), want)
				mustBeRow(t, "both exchanged", []any{net, pair, at}, impl.PivotCounts(net, pair[1], pair[0], at), want)
			}
		}
	}
}

func TestPromise29AllPivotsAreToldByCounts(t *testing.T) {
	for _, net := range validNets() {
		edges := len(net.Edges)
		for _, pair := range pairsFor(net) {
			counts := impl.JoiningCounts(net, pair[0], pair[1])
			var want []int
			for at := range edges {
				want = append(want, (at+1)*counts[at+1]-(edges-at)*counts[at])
			}
			mustBeRow(t, "AllPivots", []any{net, pair}, impl.AllPivots(net, pair[0], pair[1]), want)
			mustBeRow(t, "both exchanged", []any{net, pair}, impl.AllPivots(net, pair[1], pair[0]), want)
		}
	}
}

func TestPromise30EdgesOnNoPathHaveNoWeight(t *testing.T) {
	found := 0
	for _, net := range validNets() {
		for _, pair := range pairsFor(net) {
			paths := impl.PathsOf(net, pair[0], pair[1])
			for at := range net.Edges {
				got := impl.WeightOf(net, pair[0], pair[1], at)
				if got < 0 || got > states(net)/2 {
					t.Fatal("less than none, or more than all states of the others", net, pair, at, got)
				}
				if (got == 0) == meetAt(paths, at) {
					t.Fatal("no weight on a path, or weight on none", net, pair, at, got)
				}
				mustBe(t, "WeightOf", net, got, sumOf(impl.PivotCounts(net, pair[0], pair[1], at)))
				mustBe(t, "both exchanged", net, impl.WeightOf(net, pair[1], pair[0], at), got)
				if got == 0 {
					found++
				}
			}
		}
	}
	if found < 100 {
		t.Fatal("too few edges on no path", found)
	}
}

// pivotCase is what chapter 6 tells of a net and two of its nodes: a row for each edge, and that of all edges.
type pivotCase struct {
	net  impl.Net
	a    int
	b    int
	rows [][]int
	all  []int
}

// check fails a test unless all counts are told of a net as its case has it, for both nodes and for both exchanged.
func (c pivotCase) check(t *testing.T) {
	t.Helper()
	for _, pair := range [][2]int{{c.a, c.b}, {c.b, c.a}} {
		about := []any{c.net, pair}
		for at, row := range c.rows {
			mustBeRow(t, "PivotCounts", append(about, at), impl.PivotCounts(c.net, pair[0], pair[1], at), row)
			mustBe(t, "WeightOf", c.net, impl.WeightOf(c.net, pair[0], pair[1], at), sumOf(row))
		}
		mustBeRow(t, "AllPivots", about, impl.AllPivots(c.net, pair[0], pair[1]), c.all)
	}
}

// noEdgePivot fails a test unless no edge of a net is a pivot for two different nodes in any state, as it is if none is on a path between them.
func noEdgePivot(t *testing.T, net impl.Net, pair [2]int) {
	t.Helper()
	edges := len(net.Edges)
	for at := range edges {
		for state := range states(net) {
			notPivot(t, net, pair[0], pair[1], state, at)
		}
	}
	none := slices.Repeat([][]int{make([]int, edges)}, edges)
	pivotCase{net, pair[0], pair[1], none, make([]int, edges)}.check(t)
}

// countedOtherwise returns the case of two different nodes, its counts found in another way: over all states in which an edge is not there, one after the other.
func countedOtherwise(net impl.Net, pair [2]int) pivotCase {
	found := pivotCase{net: net, a: pair[0], b: pair[1], all: make([]int, len(net.Edges))}
	for at := range net.Edges {
		row := make([]int, len(net.Edges))
		for state := range states(net) {
			if state>>at%2 == 0 && otherPivot(net, pair, state, at) {
				row[len(present(net, state))]++
				found.all[len(present(net, state))]++
			}
		}
		found.rows = append(found.rows, row)
	}
	return found
}

func TestPivotCountsAreThoseFoundOtherwise(t *testing.T) {
	for i, net := range validNets() {
		pairs := nodePairs(net)
		countedOtherwise(net, pairs[i%len(pairs)]).check(t)
	}
}

func TestPivotExamples(t *testing.T) {
	bridge := netOf(4, [2]int{1, 2}, [2]int{1, 3}, [2]int{2, 3}, [2]int{2, 4}, [2]int{3, 4})
	for _, c := range []pivotCase{
		{kite(), 1, 4, [][]int{{0, 0, 1, 0}, {0, 0, 1, 0}, {0, 1, 2, 0}, {0, 1, 3, 1}}, []int{0, 2, 7, 1}},
		{kite(), 1, 3, [][]int{{0, 1, 1, 0}, {0, 1, 1, 0}, {1, 3, 2, 0}, {0, 0, 0, 0}}, []int{1, 5, 4, 0}},
		{kite(), 3, 4, [][]int{{0, 0, 0, 0}, {0, 0, 0, 0}, {0, 0, 0, 0}, {1, 3, 3, 1}}, []int{1, 3, 3, 1}},
		{bridge, 1, 4, [][]int{{0, 1, 4, 1, 0}, {0, 1, 4, 1, 0}, {0, 0, 2, 0, 0}, {0, 1, 4, 1, 0}, {0, 1, 4, 1, 0}}, []int{0, 4, 18, 4, 0}},
		{netOf(3, [2]int{1, 2}, [2]int{2, 3}, [2]int{1, 3}), 1, 3, [][]int{{0, 1, 0}, {0, 1, 0}, {1, 2, 0}}, []int{1, 4, 0}},
		{netOf(3, [2]int{1, 2}, [2]int{2, 3}), 1, 3, [][]int{{0, 1}, {0, 1}}, []int{0, 2}},
		{netOf(3, [2]int{1, 2}, [2]int{2, 3}), 1, 2, [][]int{{1, 1}, {0, 0}}, []int{1, 1}},
	} {
		c.check(t)
	}
}

func TestAnEdgeThatIsThereAndOneThatIsNot(t *testing.T) {
	net := kite()
	for _, c := range []struct {
		a     int
		b     int
		state int
		at    int
		want  bool
	}{
		{1, 4, 12, 3, true},
		{1, 4, 4, 3, true},
		{1, 4, 15, 3, true},
		{1, 4, 7, 3, true},
		{1, 4, 3, 3, true},
		{1, 4, 1, 3, false},
		{1, 4, 8, 3, false},
		{1, 4, 0, 3, false},
		{1, 4, 15, 2, false},
		{1, 4, 11, 2, false},
		{1, 4, 8, 2, true},
		{1, 4, 12, 2, true},
		{1, 4, 9, 2, true},
		{1, 4, 11, 0, true},
		{1, 4, 10, 0, true},
		{1, 4, 14, 0, false},
		{1, 4, 15, 0, false},
		{1, 3, 0, 2, true},
		{1, 3, 15, 3, false},
		{1, 3, 7, 3, false},
	} {
		for _, pair := range [][2]int{{c.a, c.b}, {c.b, c.a}} {
			if impl.PivotOk(net, pair[0], pair[1], c.state, c.at) != c.want {
				t.Fatal("PivotOk", pair, c.state, c.at, !c.want)
			}
		}
	}
}

func TestABridgeIsAPivotIfItsEndsAreJoined(t *testing.T) {
	// Between a piece of 1 to 3 and one of 4 to 6 one edge, at each place, is the only one.
	sides := edges([2]int{1, 2}, [2]int{2, 3}, [2]int{1, 3}, [2]int{4, 5}, [2]int{5, 6}, [2]int{4, 6})
	for at := 0; at <= len(sides); at++ {
		net := impl.Net{Nodes: 6, Edges: slices.Insert(slices.Clone(sides), at, impl.Edge{A: 3, B: 4})}
		pivotCase{net, 3, 4, nil, choiceRow(6)}.check(t)
		mustBeRow(t, "between its ends", at, impl.PivotCounts(net, 3, 4, at), choiceRow(6))
		mustBe(t, "between its ends", net, impl.WeightOf(net, 3, 4, at), 64)
		// Of the 8 states of each side 5 join two of its nodes: 3 edges at most, 0, 1, 3 and 1 of them.
		mustBeRow(t, "over two sides", at, impl.PivotCounts(net, 1, 6, at), []int{0, 0, 1, 6, 11, 6, 1})
		mustBe(t, "over two sides", net, impl.WeightOf(net, 6, 1, at), 25)
		for state := range states(net) {
			isPivot(t, net, [2]int{3, 4}, state, at, true)
			notPivot(t, net, 1, 3, state, at)
			notPivot(t, net, 4, 6, state, at)
		}
		mustBe(t, "beside it", net, impl.WeightOf(net, 1, 2, at), 0)
		mustBeRow(t, "beside it", at, impl.PivotCounts(net, 1, 2, at), make([]int, 7))
	}
}

func TestPivotsOfAnEdgeOnNoPath(t *testing.T) {
	// The node 4 hangs at 3 alone, and 5 and 6 are apart.
	net := netOf(6, [2]int{3, 4}, [2]int{1, 2}, [2]int{5, 6}, [2]int{2, 3}, [2]int{1, 3}, [2]int{3, 4}, [2]int{5, 6})
	for _, at := range []int{0, 2, 5, 6} {
		for _, pair := range [][2]int{{1, 2}, {2, 1}, {1, 3}, {2, 3}} {
			for state := range states(net) {
				notPivot(t, net, pair[0], pair[1], state, at)
			}
			mustBeRow(t, "PivotCounts", []any{pair, at}, impl.PivotCounts(net, pair[0], pair[1], at), make([]int, 7))
			mustBe(t, "WeightOf", net, impl.WeightOf(net, pair[0], pair[1], at), 0)
			if len(impl.PivotCounts(net, pair[0], pair[1], at)) != 7 {
				t.Fatal("no counts", pair, at)
			}
		}
	}
}

func TestPivotsOfOneEdgeAlone(t *testing.T) {
	for nodes := 2; nodes <= impl.MaxNodes; nodes++ {
		for _, edge := range allPairs(nodes) {
			net := impl.Net{Nodes: nodes, Edges: []impl.Edge{edge}}
			for _, pair := range nodePairs(net) {
				if min(pair[0], pair[1]) != edge.A || max(pair[0], pair[1]) != edge.B {
					noEdgePivot(t, net, pair)
					continue
				}
				isPivot(t, net, pair, 0, 0, true)
				pivotCase{net, pair[0], pair[1], [][]int{{1}}, []int{1}}.check(t)
			}
		}
	}
}

func TestNetsWithoutEdgesHaveNoPivots(t *testing.T) {
	for nodes := 2; nodes <= impl.MaxNodes; nodes++ {
		for _, none := range [][]impl.Edge{nil, {}} {
			net := impl.Net{Nodes: nodes, Edges: none}
			for _, pair := range nodePairs(net) {
				mustBeRow(t, "AllPivots", []any{net, pair}, impl.AllPivots(net, pair[0], pair[1]), nil)
				for _, at := range append(wrongNumbers(0, 0), 1, 8) {
					noPlace(t, net, pair[0], pair[1], at)
				}
			}
		}
	}
}

func TestPivotsOfEdgesWithTheSameEnds(t *testing.T) {
	for nodes := 2; nodes <= impl.MaxNodes; nodes++ {
		for many := 1; many <= impl.MaxEdges; many++ {
			net := impl.Net{Nodes: nodes, Edges: slices.Repeat(edges([2]int{nodes - 1, nodes}), many)}
			// Each one is a pivot just if no other one is there.
			row := make([]int, many)
			row[0] = 1
			all := make([]int, many)
			all[0] = many
			pivotCase{net, nodes - 1, nodes, slices.Repeat([][]int{row}, many), all}.check(t)
			for at := range many {
				for state := range states(net) {
					isPivot(t, net, [2]int{nodes - 1, nodes}, state, at, state&^(1<<at) == 0)
				}
			}
			if nodes > 2 && many%4 == 1 {
				noEdgePivot(t, net, [2]int{1, nodes})
			}
		}
	}
}

func TestPivotsOfEdgesOneAfterTheOther(t *testing.T) {
	for _, order := range allOrders(impl.MaxNodes - 1) {
		// Each one is a pivot just if all others are there.
		net := ladder(order)
		row := []int{0, 0, 0, 0, 1}
		pivotCase{net, 1, impl.MaxNodes, slices.Repeat([][]int{row}, 5), []int{0, 0, 0, 0, 5}}.check(t)
		for at := range net.Edges {
			isPivot(t, net, [2]int{1, impl.MaxNodes}, 31, at, true)
			isPivot(t, net, [2]int{1, impl.MaxNodes}, 31&^(1<<((at+1)%5)), at, false)
		}
	}
}

func TestNodesThatAreNeverJoinedHaveNoPivots(t *testing.T) {
	apart := netOf(6, [2]int{1, 5}, [2]int{3, 5}, [2]int{1, 3}, [2]int{2, 6}, [2]int{2, 4}, [2]int{4, 6}, [2]int{1, 3}, [2]int{2, 4}, [2]int{3, 5})
	for _, pair := range [][2]int{{1, 2}, {2, 1}, {3, 6}, {5, 4}} {
		noEdgePivot(t, apart, pair)
	}
	found := 0
	for _, net := range validNets() {
		for _, pair := range nodePairs(net) {
			if len(net.Edges) > 0 && len(net.Edges) < 5 && neverJoined(net, pair) {
				noEdgePivot(t, net, pair)
				found++
			}
		}
	}
	if found < 100 {
		t.Fatal("too few nodes that are never joined", found)
	}
}

func TestPivotsOfTheGreatestNets(t *testing.T) {
	for _, net := range []impl.Net{threesNet(), fullNet()} {
		for _, pair := range nodePairs(net) {
			countedOtherwise(net, pair).check(t)
			for _, at := range []int{0, impl.MaxEdges - 1} {
				for _, state := range []int{0, 1, 255, 256, 510, 511} {
					isPivot(t, net, pair, state, at, otherPivot(net, pair, state, at))
				}
			}
		}
	}
	// Of 9 edges of both threes the one with both ends is a pivot unless another path is there.
	threes := threesNet()
	mustBeRow(t, "its own ends", threes, impl.PivotCounts(threes, 1, 4, 0)[:4], []int{1, 8, 28, 52})
	all := impl.Net{Nodes: impl.MaxNodes, Edges: slices.Repeat(edges([2]int{1, 6}), impl.MaxEdges)}
	for at := range all.Edges {
		isPivot(t, all, [2]int{1, 6}, 0, at, true)
		isPivot(t, all, [2]int{1, 6}, 511, at, false)
	}
}

// noPlace fails a test unless each function of chapter 6 that tells of an edge returns its fixed result, either way.
func noPlace(t *testing.T, net impl.Net, a, b, at int) {
	t.Helper()
	for _, pair := range [][2]int{{a, b}, {b, a}} {
		for _, state := range []int{0, 1, 3, 12, 511, -1, math.MinInt, math.MaxInt} {
			if impl.PivotOk(net, pair[0], pair[1], state, at) {
				t.Fatal("a pivot", net, pair, state, at)
			}
		}
		mustBeRow(t, "PivotCounts", []any{net, pair, at}, impl.PivotCounts(net, pair[0], pair[1], at), nil)
		mustBe(t, "WeightOf", net, impl.WeightOf(net, pair[0], pair[1], at), -1)
	}
}

// noPivots fails a test unless each function of chapter 6 returns its fixed result, either way.
func noPivots(t *testing.T, net impl.Net, a, b int) {
	t.Helper()
	for _, at := range []int{0, 1, 3, 8, -1, 9, 64, math.MinInt, math.MaxInt} {
		noPlace(t, net, a, b, at)
	}
	mustBeRow(t, "AllPivots", []any{net, a, b}, impl.AllPivots(net, a, b), nil)
	mustBeRow(t, "AllPivots", []any{net, b, a}, impl.AllPivots(net, b, a), nil)
}

func TestWrongNodesHaveNoPivots(t *testing.T) {
	for _, net := range validNets() {
		for node := 1; node <= net.Nodes; node++ {
			noPivots(t, net, node, node)
		}
		for _, wrong := range wrongNumbers(1, net.Nodes+1) {
			noPivots(t, net, 1, wrong)
			noPivots(t, net, net.Nodes, wrong)
			noPivots(t, net, wrong, wrong)
		}
		noPivots(t, net, 0, net.Nodes+1)
		noPivots(t, net, math.MinInt, math.MaxInt)
	}
}

func TestWrongPlacesHaveNoPivots(t *testing.T) {
	for _, net := range validNets() {
		for _, at := range append(wrongNumbers(0, len(net.Edges)), 62, 63, 64, 65, -63, -64) {
			if at >= 0 && at < len(net.Edges) {
				t.Fatal("a place", net, at)
			}
			noPlace(t, net, 1, 2, at)
			noPlace(t, net, net.Nodes, 1, at)
			noPlace(t, net, 1, 1, at)
		}
	}
}

func TestWrongStatesHaveNoPivots(t *testing.T) {
	for _, net := range validNets() {
		for _, pair := range somePairs(net) {
			for _, state := range append(wrongNumbers(0, states(net)), 2*states(net)-1, states(net)*2, 1024, -states(net), 1<<62) {
				if state >= 0 && state < states(net) {
					continue
				}
				for at := range net.Edges {
					notPivot(t, net, pair[0], pair[1], state, at)
				}
			}
		}
	}
	// The state with a bit too many, and that below 0, would join both with the edge alone.
	one := netOf(2, [2]int{1, 2})
	for _, state := range []int{2, 3, 4, 5, -1, -2, math.MinInt, math.MinInt + 1, math.MaxInt} {
		notPivot(t, one, 1, 2, state, 0)
	}
}

func TestInvalidNetsHaveNoPivots(t *testing.T) {
	for _, net := range invalidNets() {
		for _, pair := range [][2]int{{1, 2}, {1, 1}, {1, net.Nodes}, {net.Nodes, 2}, {0, 1}, {math.MinInt, math.MaxInt}} {
			noPivots(t, net, pair[0], pair[1])
		}
	}
}

// tellPivots returns all that chapter 6 tells of a net, two nodes and an edge, in a state.
func tellPivots(net impl.Net, a, b, state, at int) [][]int {
	pivot := 0
	if impl.PivotOk(net, a, b, state, at) {
		pivot = 1
	}
	return [][]int{impl.PivotCounts(net, a, b, at), impl.AllPivots(net, a, b), {pivot, impl.WeightOf(net, a, b, at)}}
}

func TestPivotsLeaveNetsAsTheyAreAndShareNoMemory(t *testing.T) {
	leavesNetsAsTheyAre(t, func(net impl.Net) [][]int {
		return append(tellPivots(net, 1, 2, 0, 0), tellPivots(net, net.Nodes, 1, 5, len(net.Edges)-1)...)
	})
}

func TestPivotsKeepNoState(t *testing.T) {
	keepsNoState(t, func(net impl.Net, at int) [][]int {
		return append(tellPivots(net, 1, 2, at%9, at%5), tellPivots(net, net.Nodes, at%3, at, at%11-1)...)
	})
}
