package tests

import (
	"math"
	"slices"
	"testing"

	"loop.example/failingnets/impl"
)

func TestFailingExamples(t *testing.T) {
	for _, c := range []struct {
		net          impl.Net
		pair         [2]int
		order        []int
		fails, joins int
	}{
		{kite(), [2]int{1, 4}, []int{0, 2, 1, 3}, 2, 4},
		{kite(), [2]int{1, 4}, []int{3, 0, 1, 2}, 1, 3},
		{kite(), [2]int{1, 4}, []int{3, 1, 2, 0}, 1, 3},
		{kite(), [2]int{1, 4}, []int{2, 3, 0, 1}, 2, 2},
		{kite(), [2]int{1, 4}, []int{0, 1, 3, 2}, 3, 3},
		{kite(), [2]int{4, 1}, []int{1, 0, 2, 3}, 3, 4},
		{kite(), [2]int{1, 3}, []int{3, 0, 1, 2}, 4, 3},
		{kite(), [2]int{3, 1}, []int{2, 1, 0, 3}, 2, 1},
		{kite(), [2]int{1, 3}, []int{3, 2, 1, 0}, 3, 2},
		{ringNet(6), [2]int{1, 4}, []int{1, 2, 3, 4, 5, 0}, 4, 3},
		{ringNet(6), [2]int{4, 1}, []int{1, 0, 2, 5, 4, 3}, 2, 5},
		{fours(), [2]int{1, 4}, []int{5, 4, 3, 2, 1, 0}, 4, 4},
		{fours(), [2]int{1, 4}, []int{2, 0, 5, 1, 4, 3}, 4, 1},
		{fours(), [2]int{1, 4}, []int{0, 1, 3, 4, 5, 2}, 6, 4},
		// Of two edges with the same ends one is enough.
		{netOf(3, [2]int{1, 2}, [2]int{2, 3}, [2]int{1, 2}), [2]int{1, 3}, []int{0, 2, 1}, 2, 3},
		{netOf(3, [2]int{1, 2}, [2]int{2, 3}, [2]int{1, 2}), [2]int{1, 3}, []int{1, 2, 0}, 1, 2},
		// Between two pieces nothing leads, whatever fails or comes.
		{twoRings(), [2]int{1, 2}, []int{5, 0, 4, 1, 3, 2}, 0, 7},
		{twoRings(), [2]int{1, 4}, []int{5, 0, 4, 1, 3, 2}, 2, 2},
	} {
		isFailing(t, c.net, c.pair, c.order, c.fails, c.joins)
	}
}

func TestLivesExamples(t *testing.T) {
	for _, c := range []lifeCase{
		{kite(), 1, 4, []int{0, 6, 14, 4, 0}, 46},
		{kite(), 1, 3, []int{0, 0, 8, 10, 6}, 70},
		{kite(), 3, 4, []int{0, 6, 6, 6, 6}, 60},
		{ringNet(3), 1, 2, []int{0, 0, 4, 2}, 14},
		{ringNet(4), 1, 3, []int{0, 0, 16, 8, 0}, 56},
		{ringNet(6), 1, 4, []int{0, 0, 432, 216, 72, 0, 0}, 1800},
		{fours(), 1, 4, []int{0, 0, 0, 72, 312, 216, 120}, 3264},
		{twoRings(), 1, 4, []int{0, 0, 96, 156, 180, 168, 120}, 2940},
		{twoRings(), 1, 2, []int{720, 0, 0, 0, 0, 0, 0}, 0},
		// Three edges with the same ends, and one more edge behind them.
		{netOf(3, [2]int{1, 2}, [2]int{2, 3}, [2]int{1, 2}, [2]int{1, 2}), 1, 3, []int{0, 6, 6, 12, 0}, 54},
	} {
		c.check(t)
	}
}

// allLives fails a test unless two nodes of a net have the same life in all orders, and the edges come as late in all of them.
func allLives(t *testing.T, net impl.Net, pair [2]int, fails, joins int) {
	t.Helper()
	many := len(net.Edges)
	all := factorials()[many]
	lifeCase{net, pair[0], pair[1], only(many, fails, all), fails * all}.check(t)
	for _, order := range allOrders(many) {
		isFailing(t, net, pair, order, fails, joins)
	}
}

func TestLivesOfNetsWithoutEdges(t *testing.T) {
	for nodes := 2; nodes <= impl.MaxNodes; nodes++ {
		for _, none := range [][]impl.Edge{nil, {}} {
			net := impl.Net{Nodes: nodes, Edges: none}
			for _, pair := range nodePairs(net) {
				allLives(t, net, pair, 0, 1)
				isFailing(t, net, pair, []int{}, 0, 1)
				isFailing(t, net, pair, []int{0}, -1, -1)
			}
		}
	}
}

func TestLivesOfOneEdge(t *testing.T) {
	for nodes := 2; nodes <= impl.MaxNodes; nodes++ {
		for _, edge := range allPairs(nodes) {
			net := impl.Net{Nodes: nodes, Edges: []impl.Edge{edge}}
			for _, pair := range nodePairs(net) {
				if min(pair[0], pair[1]) == edge.A && max(pair[0], pair[1]) == edge.B {
					allLives(t, net, pair, 1, 1)
				} else {
					allLives(t, net, pair, 0, 2)
				}
				isFailing(t, net, pair, nil, -1, -1)
				isFailing(t, net, pair, []int{1}, -1, -1)
				isFailing(t, net, pair, []int{-1}, -1, -1)
				isFailing(t, net, pair, []int{0, 0}, -1, -1)
			}
		}
	}
}

func TestLivesOfEdgesWithTheSameEnds(t *testing.T) {
	for nodes := 2; nodes <= impl.MaxNodes; nodes++ {
		for many := 1; many <= impl.MaxOrdered; many++ {
			net := impl.Net{Nodes: nodes, Edges: slices.Repeat(edges([2]int{1, nodes}), many)}
			// Both nodes part with the last edge, and are joined with the first one.
			allLives(t, net, [2]int{nodes, 1}, many, 1)
			if nodes > 2 {
				allLives(t, net, [2]int{1, 2}, 0, many+1)
			}
		}
	}
}

func TestLivesOfEdgesOneAfterTheOther(t *testing.T) {
	for many := 1; many < impl.MaxNodes; many++ {
		net := impl.Net{Nodes: many + 1, Edges: ringNet(impl.MaxNodes).Edges[1 : many+1]}
		// Both ends part with the first edge, and are joined with the last one.
		allLives(t, net, [2]int{1, many + 1}, 1, many)
	}
}

func TestLivesOfNodesThatAreNeverJoined(t *testing.T) {
	found := 0
	for _, net := range lifeNets() {
		for _, pair := range pairsFor(net) {
			if neverJoined(net, pair) {
				allLives(t, net, pair, 0, len(net.Edges)+1)
				if len(net.Edges) == impl.MaxOrdered {
					found++
				}
			}
		}
	}
	if found < 10 {
		t.Fatal("too few nodes that are never joined", found)
	}
}

// noLives fails a test unless each function of chapter 12 that tells of a net returns its fixed result, either way, for orders of all lengths.
func noLives(t *testing.T, net impl.Net, a, b int) {
	t.Helper()
	lifeCase{net, a, b, nil, -1}.check(t)
	for many := range 12 {
		isFailing(t, net, [2]int{a, b}, allNumbers(many), -1, -1)
		isFailing(t, net, [2]int{b, a}, backward(allNumbers(many)), -1, -1)
	}
}

func TestLivesOfTheMostEdges(t *testing.T) {
	for _, net := range []impl.Net{threesNet(), fullNet(), {Nodes: 2, Edges: slices.Repeat(edges([2]int{1, 2}), impl.MaxEdges)}} {
		for many := impl.MaxOrdered; many <= impl.MaxEdges; many++ {
			less := impl.Net{Nodes: net.Nodes, Edges: net.Edges[:many]}
			for _, pair := range nodePairs(less) {
				if many > impl.MaxOrdered {
					noLives(t, less, pair[0], pair[1])
					continue
				}
				life := lifeBetween(less, pair)
				mustBeRow(t, "LivesOf", []any{less, pair}, impl.LivesOf(less, pair[0], pair[1]), life.lives())
				mustBeRow(t, "LivesBy", []any{less, pair}, impl.LivesBy(less, pair[0], pair[1]), life.lives())
			}
		}
	}
	// Without any edge between them two nodes have no lives either, if there are too many others.
	noLives(t, impl.Net{Nodes: 6, Edges: slices.Repeat(edges([2]int{1, 2}), impl.MaxOrdered+1)}, 5, 6)
}

func TestWrongOrdersDoNotFail(t *testing.T) {
	for at, net := range lifeNets() {
		if len(net.Edges) > 3 && at%5 != 0 {
			continue
		}
		for _, pair := range somePairs(net) {
			for _, order := range wrongOrders(len(net.Edges)) {
				isFailing(t, net, pair, order, -1, -1)
				isFailing(t, net, pair, backward(order), -1, -1)
			}
		}
	}
}

func TestWrongNodesHaveNoLives(t *testing.T) {
	for _, net := range lifeNets() {
		for node := 1; node <= net.Nodes; node++ {
			noLives(t, net, node, node)
		}
		for _, wrong := range wrongNumbers(1, net.Nodes+1) {
			noLives(t, net, 1, wrong)
			noLives(t, net, net.Nodes, wrong)
			noLives(t, net, wrong, wrong)
		}
		noLives(t, net, 0, net.Nodes+1)
		noLives(t, net, math.MinInt, math.MaxInt)
	}
}

func TestInvalidNetsHaveNoLives(t *testing.T) {
	for _, net := range invalidNets() {
		for _, pair := range [][2]int{{1, 2}, {1, 1}, {1, net.Nodes}, {net.Nodes, 2}, {0, 1}, {math.MinInt, math.MaxInt}} {
			noLives(t, net, pair[0], pair[1])
		}
	}
}

// tellLives returns all that chapter 12 tells of a net, two nodes and an order.
func tellLives(net impl.Net, a, b int, order []int) [][]int {
	row := []int{impl.FailsAt(net, a, b, order), impl.JoinsAt(net, a, b, order), impl.LifeSum(net, a, b)}
	return [][]int{impl.LivesOf(net, a, b), impl.LivesBy(net, a, b), row}
}

func TestLivesLeaveNetsAsTheyAreAndShareNoMemory(t *testing.T) {
	leavesNetsAsTheyAre(t, func(net impl.Net) [][]int {
		order := allNumbers(len(net.Edges))
		return append(tellLives(net, 1, 2, order), tellLives(net, net.Nodes, 1, backward(order))...)
	})
}

func TestLivesLeaveOrdersAsTheyAre(t *testing.T) {
	for _, net := range []impl.Net{{Nodes: 2}, kite(), fours(), twoRings(), fullNet(), {}} {
		many := len(net.Edges)
		for _, order := range append(wrongOrders(many), allNumbers(many), backward(allNumbers(many))) {
			lent, memory := lentRow(order)
			before := slices.Clone(memory)
			tellLives(net, 1, 2, lent)
			tellLives(net, 1, 1, lent)
			mustBeRow(t, "written to", []any{net, order}, memory, before)
		}
	}
}

func TestLivesKeepNoState(t *testing.T) {
	keepsNoState(t, func(net impl.Net, at int) [][]int {
		order := allNumbers(len(net.Edges))
		return append(tellLives(net, 1, 2, order), tellLives(net, net.Nodes, at%3, backward(order))...)
	})
}
