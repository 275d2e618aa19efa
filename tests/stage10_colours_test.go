package tests

import (
	"math/bits"
	"slices"
	"testing"

	"loop.example/failingnets/impl"
)

// colourNets returns nets of all kinds, those with the most rings and in pieces among them.
func colourNets() []impl.Net {
	list := append(treeNets(), twoRings())
	for nodes := 2; nodes <= impl.MaxNodes; nodes++ {
		list = append(list, impl.Net{Nodes: nodes}, impl.Net{Nodes: nodes, Edges: slices.Repeat(edges([2]int{1, nodes}), impl.MaxEdges)})
	}
	return list
}

// twoRings is a net in two pieces, each a ring of three nodes.
func twoRings() impl.Net {
	return netOf(6, [2]int{1, 4}, [2]int{2, 3}, [2]int{4, 6}, [2]int{2, 5}, [2]int{3, 5}, [2]int{1, 6})
}

// fours is the net in which each two of four nodes have an edge.
func fours() impl.Net {
	return impl.Net{Nodes: 4, Edges: allPairs(4)}
}

// isAlone reports whether no other edge has the ends of one.
func isAlone(net impl.Net, at int) bool {
	many := 0
	for _, edge := range net.Edges {
		if edge == net.Edges[at] {
			many++
		}
	}
	return many == 1
}

// lessAndMade gives a function, for each edge of a net that alone has its ends, the net without it and that with its ends made one.
func lessAndMade(net impl.Net, see func(without, made impl.Net)) {
	if net.Nodes < 3 {
		return
	}
	for at := range net.Edges {
		if isAlone(net, at) {
			without, _ := impl.WithoutEdge(net, at)
			made, _, _ := impl.MadeOne(net, at)
			see(without, made)
		}
	}
}

// paintedSum returns the sum for a number, which must be there.
func paintedSum(t *testing.T, net impl.Net, number int) int {
	t.Helper()
	sum, ok := impl.PaintedSum(net, number)
	if !ok {
		t.Fatal("no sum", net, number)
	}
	return sum
}

// otherPainted counts paintings in another way: node by node, each painted unlike those before it to which it has an edge.
func otherPainted(net impl.Net, colours int) int {
	var painted [impl.MaxNodes + 1]int
	var paint func(node int) int
	paint = func(node int) int {
		if node > net.Nodes {
			return 1
		}
		count := 0
		for colour := 1; colour <= colours; colour++ {
			// All edges to lesser nodes have this one for their greater end.
			if !slices.ContainsFunc(net.Edges, func(edge impl.Edge) bool { return edge.B == node && painted[edge.A] == colour }) {
				painted[node] = colour
				count += paint(node + 1)
			}
		}
		return count
	}
	return paint(1)
}

// otherSum returns the sum over all states, the pieces told by ways, of a number taken as often as there are pieces; here states are added and taken away apart from each other.
func otherSum(net impl.Net, number int) int {
	added, taking := 0, 0
	for state := range states(net) {
		one := taken(number, waysIn(net, state).pieces(net.Nodes))
		if len(present(net, state))%2 == 0 {
			added += one
		} else {
			taking += one
		}
	}
	return added - taking
}

func TestConstantsOfColours(t *testing.T) {
	if impl.MaxColours != 4 {
		t.Fatal(impl.MaxColours)
	}
}

func TestPromise64PaintingIsToldByStates(t *testing.T) {
	for _, net := range colourNets() {
		before := 0
		for colours := 0; colours <= impl.MaxColours; colours++ {
			got := impl.CountPainted(net, colours)
			mustBe(t, "PaintedSum", net, paintedSum(t, net, colours), got)
			if got < before {
				t.Fatal("fewer ways with a colour more", net, colours, got, before)
			}
			before = got
			lessAndMade(net, func(without, made impl.Net) {
				mustBe(t, "CountPainted", net, got, impl.CountPainted(without, colours)-impl.CountPainted(made, colours))
			})
		}
	}
}

func TestPaintingsAreThoseFoundOtherwise(t *testing.T) {
	for _, net := range colourNets() {
		for colours := 0; colours <= impl.MaxColours; colours++ {
			mustBe(t, "CountPainted", net, impl.CountPainted(net, colours), otherPainted(net, colours))
		}
	}
}

func TestSumsAreThoseFoundOtherwise(t *testing.T) {
	for at, net := range colourNets() {
		for number := -impl.MaxColours; number <= impl.MaxColours; number++ {
			if len(net.Edges) <= 5 || (at+number)%3 == 0 {
				mustBe(t, "PaintedSum", net, paintedSum(t, net, number), otherSum(net, number))
			}
		}
	}
}

func TestPromise65OneColourLessThanNoneTellsArrows(t *testing.T) {
	for _, net := range colourNets() {
		sign := taken(-1, net.Nodes)
		mustBe(t, "the sum for -1", net, paintedSum(t, net, -1)*sign, impl.CountNoBack(net))
		mustBe(t, "the sum for 0", net, paintedSum(t, net, 0), 0)
		want := 0
		if len(net.Edges) == 0 {
			want = 1
		}
		mustBe(t, "the sum for 1", net, paintedSum(t, net, 1), want)
	}
}

// backFrom finds out in another way whether one comes back: along one arrow after the other, from each node, no further than there are nodes.
func backFrom(net impl.Net, arrows int) bool {
	var leads [impl.MaxNodes + 1]int
	for at, edge := range net.Edges {
		if arrows>>at%2 == 1 {
			leads[edge.B] |= 1 << edge.A
		} else {
			leads[edge.A] |= 1 << edge.B
		}
	}
	for start := 1; start <= net.Nodes; start++ {
		here := 1 << start
		for range net.Nodes {
			next := 0
			for node := 1; node <= net.Nodes; node++ {
				if here>>node%2 == 1 {
					next |= leads[node]
				}
			}
			here = next
			if here>>start%2 == 1 {
				return true
			}
		}
	}
	return false
}

func TestPromise66TurnedArrowsComeBackAsWell(t *testing.T) {
	for _, net := range colourNets() {
		if impl.BackOk(net, 0) || impl.BackOk(net, states(net)-1) {
			t.Fatal("back by arrows all to greater numbers, or all to lesser ones", net)
		}
		last := len(net.Edges) - 1
		for arrows := range states(net) {
			back := impl.BackOk(net, arrows)
			if back != backFrom(net, arrows) {
				t.Fatal("BackOk", net, arrows, back)
			}
			if impl.BackOk(net, states(net)-1-arrows) != back {
				t.Fatal("all arrows turned", net, arrows, back)
			}
			if last < 0 {
				continue
			}
			without, _ := impl.WithoutEdge(net, last)
			if impl.BackOk(without, arrows&^(1<<last)) && !back {
				t.Fatal("back only without the last edge", net, arrows)
			}
		}
	}
}

func TestPromise67ArrowsWithoutReturnAreEvenInNumber(t *testing.T) {
	for _, net := range colourNets() {
		got := impl.CountNoBack(net)
		if len(net.Edges) == 0 {
			mustBe(t, "CountNoBack without edges", net, got, 1)
			continue
		}
		if got < 2 || got%2 != 0 {
			t.Fatal("odd, or fewer than both ways by the numbers", net, got)
		}
		lessAndMade(net, func(without, made impl.Net) {
			mustBe(t, "CountNoBack", net, got, impl.CountNoBack(without)+impl.CountNoBack(made))
		})
	}
}

func TestArrowsWithoutReturnAreThoseCountedOtherwise(t *testing.T) {
	for _, net := range colourNets() {
		count := 0
		for arrows := range states(net) {
			if !backFrom(net, arrows) {
				count++
			}
		}
		mustBe(t, "CountNoBack", net, impl.CountNoBack(net), count)
	}
}

func TestArrowsThereAndBack(t *testing.T) {
	for nodes := 2; nodes <= impl.MaxNodes; nodes++ {
		for many := 1; many <= impl.MaxEdges; many++ {
			net := impl.Net{Nodes: nodes, Edges: slices.Repeat(edges([2]int{nodes - 1, nodes}), many)}
			for arrows := range states(net) {
				if want := arrows != 0 && arrows != states(net)-1; impl.BackOk(net, arrows) != want {
					t.Fatal("there and back", net, arrows, !want)
				}
			}
			mustBe(t, "CountNoBack", net, impl.CountNoBack(net), 2)
		}
	}
}

func TestOnlyTheLastArrowTurned(t *testing.T) {
	for _, c := range []struct {
		net  impl.Net
		want bool
	}{
		{netOf(3, [2]int{1, 2}, [2]int{2, 3}, [2]int{1, 3}), true},
		{netOf(3, [2]int{1, 3}, [2]int{2, 3}, [2]int{1, 2}), false},
		{netOf(2, [2]int{1, 2}), false},
		{netOf(2, [2]int{1, 2}, [2]int{1, 2}), true},
		{netOf(6, [2]int{5, 6}, [2]int{4, 5}, [2]int{3, 4}, [2]int{2, 3}, [2]int{1, 2}, [2]int{1, 6}), true},
		{netOf(6, [2]int{5, 6}, [2]int{4, 5}, [2]int{3, 4}, [2]int{2, 3}, [2]int{1, 2}), false},
		{netOf(6, [2]int{4, 5}, [2]int{1, 2}, [2]int{5, 6}, [2]int{2, 3}, [2]int{4, 6}), true},
		{kite(), false},
		{threesNet(), false},
		{prism(), false},
	} {
		if got := impl.BackOk(c.net, states(c.net)/2); got != c.want {
			t.Fatal("the last arrow turned", c.net, got)
		}
	}
}

// flowNets returns all of the nets whose flows are told.
func flowNets() []impl.Net {
	list := append(colourNets(), fours())
	for many := range 7 {
		list = append(list, impl.Net{Nodes: 5, Edges: wheel().Edges[:many]}, impl.Net{Nodes: 6, Edges: threesNet().Edges[:many]})
		list = append(list, impl.Net{Nodes: 2, Edges: slices.Repeat(edges([2]int{1, 2}), many)})
	}
	return slices.DeleteFunc(list, func(net impl.Net) bool { return len(net.Edges) > 6 })
}

// flowsSum returns the sum for a number, which must be there.
func flowsSum(t *testing.T, net impl.Net, number int) int {
	t.Helper()
	sum, ok := impl.FlowsSum(net, number)
	if !ok {
		t.Fatal("no sum", net, number)
	}
	return sum
}

// otherFlows counts flows in another way: edge by edge, what is left at each node kept by remainders.
func otherFlows(net impl.Net, many int) int {
	counts := map[[impl.MaxNodes + 1]int]int{{}: 1}
	for _, edge := range net.Edges {
		next := map[[impl.MaxNodes + 1]int]int{}
		for left, count := range counts {
			for flow := 1; flow < many; flow++ {
				after := left
				after[edge.A] = (after[edge.A] + flow) % many
				after[edge.B] = (after[edge.B] + many - flow) % many
				next[after] += count
			}
		}
		counts = next
	}
	return counts[[impl.MaxNodes + 1]int{}]
}

// otherFlowsSum returns the sum over all states, told by those edges that are not there, the pieces told by ways.
func otherFlowsSum(net impl.Net, number int) int {
	sum := 0
	for gone := range states(net) {
		state := states(net) - 1 - gone
		more := bits.OnesCount(uint(state)) - net.Nodes + waysIn(net, state).pieces(net.Nodes)
		sum += taken(-1, bits.OnesCount(uint(gone))) * taken(number, more)
	}
	return sum
}

// joinsAlone reports whether a net has more pieces without some edge.
func joinsAlone(net impl.Net) bool {
	all := states(net) - 1
	for at := range net.Edges {
		if impl.PiecesIn(net, all&^(1<<at)) > impl.PiecesIn(net, all) {
			return true
		}
	}
	return false
}

func TestPromise68FlowsAreToldByStates(t *testing.T) {
	none := 0
	for _, net := range flowNets() {
		alone := joinsAlone(net)
		for many := 1; many <= impl.MaxColours; many++ {
			got := impl.CountFlows(net, many)
			mustBe(t, "FlowsSum", net, flowsSum(t, net, many), got)
			if alone {
				mustBe(t, "flows over an edge that alone joins two pieces", net, got, 0)
				none++
			}
		}
		want := 0
		if len(net.Edges) == 0 {
			want = 1
		}
		mustBe(t, "flows for 1", net, impl.CountFlows(net, 1), want)
		mustBe(t, "the sum for 1", net, flowsSum(t, net, 1), want)
	}
	if none == 0 {
		t.Fatal("no such edges")
	}
}

func TestPromise69FlowsWithAnEdgeLess(t *testing.T) {
	for _, net := range flowNets() {
		for many := 1; many <= impl.MaxColours; many++ {
			lessAndMade(net, func(without, made impl.Net) {
				mustBe(t, "CountFlows", net, impl.CountFlows(net, many), impl.CountFlows(made, many)-impl.CountFlows(without, many))
			})
		}
	}
}

func TestFlowsAreThoseFoundOtherwise(t *testing.T) {
	for _, net := range flowNets() {
		for many := 1; many <= impl.MaxColours; many++ {
			mustBe(t, "CountFlows", net, impl.CountFlows(net, many), otherFlows(net, many))
			mustBe(t, "FlowsSum", net, flowsSum(t, net, many), otherFlowsSum(net, many))
		}
	}
}
