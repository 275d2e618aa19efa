package tests

import (
	"math"
	"slices"
	"testing"

	"loop.example/failingnets/impl"
)

// roadNumbers returns numbers for the three roads, the greatest and the least one among them.
func roadNumbers() []int {
	return []int{-4, 0, 1, 2, 4}
}

// hasValues fails a test unless all roads lead to what a function tells of two numbers, for each two.
func hasValues(t *testing.T, net impl.Net, value func(x, y int) int) {
	t.Helper()
	for _, pair := range numberPairs() {
		isValue(t, net, pair[0], pair[1], value(pair[0], pair[1]))
	}
}

func TestBasesExamples(t *testing.T) {
	for _, c := range []struct {
		net  impl.Net
		want []int
	}{
		{kite(), []int{11, 13, 14}},
		{netOf(3), []int{0}},
		{netOf(2, [2]int{1, 2}), []int{1}},
		{netOf(2, [2]int{1, 2}, [2]int{1, 2}), []int{1, 2}},
		{netOf(2, [2]int{1, 2}, [2]int{1, 2}, [2]int{1, 2}), []int{1, 2, 4}},
		// Two edges between two nodes, three between two others, and one node alone.
		{netOf(5, [2]int{1, 2}, [2]int{3, 4}, [2]int{1, 2}, [2]int{3, 4}, [2]int{3, 4}), []int{3, 6, 9, 12, 17, 20}},
		// A ring of three nodes, and an edge that alone joins two others.
		{netOf(5, [2]int{2, 4}, [2]int{1, 3}, [2]int{1, 5}, [2]int{3, 5}), []int{7, 11, 13}},
		{netOf(6, [2]int{1, 2}, [2]int{3, 4}, [2]int{5, 6}), []int{7}},
	} {
		mustBeRow(t, "BasesOf", c.net, impl.BasesOf(c.net), c.want)
	}
}

func TestFirstEdgesExamples(t *testing.T) {
	pieces := netOf(5, [2]int{1, 2}, [2]int{3, 4}, [2]int{1, 2}, [2]int{3, 4}, [2]int{3, 4})
	alone := netOf(5, [2]int{2, 4}, [2]int{1, 3}, [2]int{1, 5}, [2]int{3, 5})
	for _, c := range []struct {
		net                 impl.Net
		base, there, others int
	}{
		{kite(), 11, 3, 0},
		{kite(), 13, 2, 0},
		{kite(), 14, 1, 1},
		{netOf(4), 0, 0, 0},
		{netOf(2, [2]int{1, 2}), 1, 1, 0},
		{netOf(2, [2]int{1, 2}, [2]int{1, 2}), 1, 1, 0},
		{netOf(2, [2]int{1, 2}, [2]int{1, 2}), 2, 0, 1},
		{netOf(2, [2]int{1, 2}, [2]int{1, 2}, [2]int{1, 2}), 2, 0, 1},
		{netOf(2, [2]int{1, 2}, [2]int{1, 2}, [2]int{1, 2}), 4, 0, 2},
		{pieces, 3, 2, 0},
		{pieces, 6, 1, 1},
		{pieces, 9, 1, 1},
		{pieces, 12, 0, 2},
		{pieces, 17, 1, 2},
		{pieces, 20, 0, 3},
		{alone, 7, 3, 0},
		{alone, 11, 2, 0},
		{alone, 13, 1, 1},
	} {
		isActive(t, c.net, c.base, c.there, c.others)
	}
}

func TestOneNumberExamples(t *testing.T) {
	for _, c := range []struct {
		net  impl.Net
		want func(x, y int) int
	}{
		{kite(), func(x, y int) int { return x * (x*x + x + y) }},
		{fours(), func(x, y int) int { return x*x*x + 3*x*x + 2*x + 4*x*y + 2*y + 3*y*y + y*y*y }},
		{twoRings(), func(x, y int) int { return (x*x + x + y) * (x*x + x + y) }},
		// Two rings of three have an edge in common.
		{netOf(4, [2]int{1, 2}, [2]int{1, 3}, [2]int{2, 3}, [2]int{2, 4}, [2]int{3, 4}), func(x, y int) int {
			return x*x*x + 2*x*x + x + 2*x*y + y + y*y
		}},
		{threesNet(), func(x, y int) int {
			ownX := taken(x, 5) + 4*taken(x, 4) + 10*taken(x, 3) + 11*x*x + 5*x
			ownY := 5*y + 9*y*y + 5*taken(y, 3) + taken(y, 4)
			return ownX + 15*x*y + 9*x*x*y + 6*x*y*y + ownY
		}},
		// Two edges between two nodes, three between two others, and one that alone joins two more.
		{netOf(6, [2]int{1, 2}, [2]int{3, 4}, [2]int{5, 6}, [2]int{3, 4}, [2]int{1, 2}, [2]int{3, 4}), func(x, y int) int {
			return x * (x + y) * (x + y + y*y)
		}},
	} {
		hasValues(t, c.net, c.want)
	}
	isValue(t, kite(), 2, 3, 18)
}

func TestOneNumberOfNetsWithoutEdges(t *testing.T) {
	for nodes := 2; nodes <= impl.MaxNodes; nodes++ {
		for _, none := range [][]impl.Edge{nil, {}} {
			net := impl.Net{Nodes: nodes, Edges: none}
			mustBeRow(t, "BasesOf", net, impl.BasesOf(net), []int{0})
			isActive(t, net, 0, 0, 0)
			// Nothing is taken, or 0 is taken 0 times.
			hasValues(t, net, func(x, y int) int { return 1 })
			mustBe(t, "CountAllBack", net, impl.CountAllBack(net), 1)
		}
	}
}

func TestOneNumberOfEdgesWithTheSameEnds(t *testing.T) {
	for nodes := 2; nodes <= impl.MaxNodes; nodes++ {
		for many := 1; many <= impl.MaxEdges; many++ {
			net := impl.Net{Nodes: nodes, Edges: slices.Repeat(edges([2]int{1, nodes}), many)}
			var bases []int
			for at := range many {
				bases = append(bases, 1<<at)
				there := 0
				if at == 0 {
					there = 1
				}
				isActive(t, net, 1<<at, there, at)
			}
			mustBeRow(t, "BasesOf", net, impl.BasesOf(net), bases)
			hasValues(t, net, func(x, y int) int {
				value := x
				for at := 1; at < many; at++ {
					value += taken(y, at)
				}
				return value
			})
			// Only if all arrows have one way, they do not come back.
			mustBe(t, "CountAllBack", net, impl.CountAllBack(net), taken(2, many)-2)
		}
	}
}

func TestOneNumberOfRings(t *testing.T) {
	for nodes := 2; nodes <= impl.MaxNodes; nodes++ {
		ring := ringNet(nodes)
		hasValues(t, ring, func(x, y int) int {
			value := y
			for at := 1; at < nodes; at++ {
				value += taken(x, at)
			}
			return value
		})
		mustBe(t, "CountAllBack", ring, impl.CountAllBack(ring), 2)
		// Without the edge at a place all others are there, and those before it are first; the first edge of all is first even if it is not there.
		for at := range nodes {
			others := 0
			if at == 0 {
				others = 1
			}
			isActive(t, ring, allThere(ring)&^(1<<at), at, others)
		}
	}
}

func TestOneNumberOfTrees(t *testing.T) {
	for nodes := 2; nodes <= impl.MaxNodes; nodes++ {
		for _, tree := range []impl.Net{star(nodes), {Nodes: nodes, Edges: ringNet(nodes).Edges[1:]}, {Nodes: nodes, Edges: star(nodes).Edges[:nodes/2]}} {
			many := len(tree.Edges)
			mustBeRow(t, "BasesOf", tree, impl.BasesOf(tree), []int{allThere(tree)})
			isActive(t, tree, allThere(tree), many, 0)
			hasValues(t, tree, func(x, y int) int { return taken(x, many) })
			mustBe(t, "CountAllBack", tree, impl.CountAllBack(tree), 0)
		}
	}
}

func TestAllBackExamples(t *testing.T) {
	for _, c := range []struct {
		net  impl.Net
		want int
	}{
		{kite(), 0},
		{fours(), 24},
		{twoRings(), 4},
		{threesNet(), 1*16 + 5*8 + 9*4 + 5*2},
		{netOf(4, [2]int{1, 2}, [2]int{1, 3}, [2]int{2, 3}, [2]int{2, 4}, [2]int{3, 4}), 6},
		// A ring, and an edge in no ring, be it at the ring, in another piece, or between two rings.
		{netOf(5, [2]int{2, 4}, [2]int{1, 3}, [2]int{1, 5}, [2]int{3, 5}), 0},
		{netOf(3, [2]int{1, 2}, [2]int{1, 2}, [2]int{2, 3}), 0},
		{netOf(6, [2]int{1, 2}, [2]int{2, 3}, [2]int{1, 3}, [2]int{3, 4}, [2]int{4, 5}, [2]int{5, 6}, [2]int{4, 6}), 0},
		{netOf(6, [2]int{1, 2}, [2]int{2, 3}, [2]int{1, 3}, [2]int{3, 4}, [2]int{3, 4}, [2]int{4, 5}, [2]int{5, 6}, [2]int{4, 6}), 8},
		// Two rings meet at a node, and another node is alone.
		{netOf(6, [2]int{1, 2}, [2]int{1, 2}, [2]int{2, 3}, [2]int{3, 4}, [2]int{2, 4}), 4},
	} {
		mustBe(t, "CountAllBack", c.net, impl.CountAllBack(c.net), c.want)
		if got, ok := impl.ByEdges(c.net, 0, 2); !ok || got != c.want {
			t.Fatal("the value for 0 and 2", c.net, got, ok, c.want)
		}
	}
}

func TestZeroTakenNoTimes(t *testing.T) {
	for at, net := range roadNets() {
		if len(net.Edges) > 6 && at%3 != 0 {
			continue
		}
		// 0 less 1 is never 0, and 1 less 1 is.
		bases, ringFree, whole := 0, 0, 0
		rank := rankBy(net, allThere(net))
		for state := range states(net) {
			has := rankBy(net, state)
			own := len(present(net, state))
			if has == own {
				ringFree += taken(-1, rank-has)
			}
			if has == rank {
				whole += taken(-1, own-has)
			}
			if has == own && has == rank {
				bases++
			}
		}
		isValue(t, net, 1, 1, bases)
		isValue(t, net, 0, 1, ringFree)
		isValue(t, net, 1, 0, whole)
		if len(net.Edges) > 0 {
			isValue(t, net, 0, 0, 0)
		}
	}
}

// notLeast fails a test if a state is told to be a least one.
func notLeast(t *testing.T, net impl.Net, state int) {
	t.Helper()
	if there, others, ok := impl.ActiveOf(net, state); ok || there != -1 || others != -1 {
		t.Fatal("ActiveOf", net, state, there, others, ok)
	}
}

func TestOtherStatesHaveNoFirstEdges(t *testing.T) {
	withRing, tooFew := 0, 0
	for _, net := range roadNets() {
		bases := otherBases(net)
		for state := range states(net) {
			if slices.Contains(bases, state) {
				continue
			}
			notLeast(t, net, state)
			switch many := len(present(net, state)); {
			case many == len(present(net, bases[0])):
				withRing++
			case many < len(present(net, bases[0])):
				tooFew++
			}
		}
	}
	if withRing == 0 || tooFew == 0 {
		t.Fatal("states of one kind", withRing, tooFew)
	}
}

func TestWrongStatesHaveNoFirstEdges(t *testing.T) {
	for _, net := range roadNets() {
		wrong := wrongStates(len(net.Edges))
		for _, base := range impl.BasesOf(net) {
			// The low bits of these tell a least state.
			wrong = append(wrong, base+states(net), base-states(net), math.MinInt+base, ^base, -1-base)
		}
		for _, state := range wrong {
			notLeast(t, net, state)
		}
	}
}

// wrongOnRoads returns numbers for which there is no value.
func wrongOnRoads() []int {
	return append(wrongNumbers(-greatestOnRoads, greatestOnRoads+1), 1<<31, -1<<31, 1<<62, -1<<62, 1<<8, 1<<16|1)
}

func TestWrongNumbersHaveNoValue(t *testing.T) {
	for _, net := range roadNets() {
		for _, wrong := range wrongOnRoads() {
			for _, number := range roadNumbers() {
				noValue(t, net, wrong, number)
				noValue(t, net, number, wrong)
			}
			noValue(t, net, wrong, wrong)
			noValue(t, net, wrong, -5)
		}
	}
}

func TestInvalidNetsHaveNoNumber(t *testing.T) {
	for _, net := range invalidNets() {
		mustBeRow(t, "BasesOf", net, impl.BasesOf(net), nil)
		for _, x := range append(roadNumbers(), wrongOnRoads()...) {
			for _, y := range append(roadNumbers(), 5) {
				noValue(t, net, x, y)
			}
		}
		for _, state := range append(wrongStates(4), 0, 1, 2, 3, 7, 8, 1<<9, 1<<10-1) {
			notLeast(t, net, state)
		}
		mustBe(t, "CountAllBack", net, impl.CountAllBack(net), -1)
	}
}

// tellRoads returns all that chapter 11 tells of a net, a state and two numbers.
func tellRoads(net impl.Net, state, x, y int) [][]int {
	there, others, least := impl.ActiveOf(net, state)
	row := []int{impl.CountAllBack(net), there, others, 0}
	if least {
		row[3] = 1
	}
	for _, road := range roads() {
		value, ok := road.tell(net, x, y)
		row = append(row, value, 0)
		if ok {
			row[len(row)-1] = 1
		}
	}
	return [][]int{impl.BasesOf(net), row}
}

func TestRoadsLeaveNetsAsTheyAreAndShareNoMemory(t *testing.T) {
	leavesNetsAsTheyAre(t, func(net impl.Net) [][]int {
		return slices.Concat(tellRoads(net, 1, 2, 3), tellRoads(net, 0, -4, 4), tellRoads(net, -1, 5, 0))
	})
}

func TestRoadsKeepNoState(t *testing.T) {
	keepsNoState(t, func(net impl.Net, at int) [][]int {
		return tellRoads(net, at%40-3, at%11-5, at%7-3)
	})
}
