package tests

import (
	"math"
	"slices"
	"testing"

	"loop.example/failingnets/impl"
)

// colourCase is what chapter 10 tells of a net: the paintings for 0 up to 4 colours, the arrows without return, and the flows for 1 up to 4.
type colourCase struct {
	net     impl.Net
	painted []int
	noBack  int
	flows   []int
}

// noFlows is what is told of the flows of a net with too many edges.
var noFlows = []int{-1, -1, -1, -1}

// tellFlows returns the flows of a net for 1 up to 4.
func tellFlows(net impl.Net) []int {
	var row []int
	for many := 1; many <= impl.MaxColours; many++ {
		row = append(row, impl.CountFlows(net, many))
	}
	return row
}

// check fails a test unless all is told of a net as its case has it.
func (c colourCase) check(t *testing.T) {
	t.Helper()
	var painted []int
	for colours := 0; colours <= impl.MaxColours; colours++ {
		painted = append(painted, impl.CountPainted(c.net, colours))
	}
	mustBeRow(t, "CountPainted", c.net, painted, c.painted)
	mustBe(t, "CountNoBack", c.net, impl.CountNoBack(c.net), c.noBack)
	mustBeRow(t, "CountFlows", c.net, tellFlows(c.net), c.flows)
}

func TestColoursExamples(t *testing.T) {
	for _, c := range []colourCase{
		{kite(), []int{0, 0, 0, 12, 72}, 12, []int{0, 0, 0, 0}},
		{fours(), []int{0, 0, 0, 0, 24}, 24, []int{0, 0, 0, 6}},
		{threesNet(), []int{0, 0, 2, 42, 420}, 230, noFlows},
		{twoRings(), []int{0, 0, 0, 36, 576}, 36, []int{0, 1, 4, 9}},
		{netOf(2), []int{0, 1, 4, 9, 16}, 1, []int{1, 1, 1, 1}},
		{netOf(2, [2]int{1, 2}), []int{0, 0, 2, 6, 12}, 2, []int{0, 0, 0, 0}},
		{netOf(3, [2]int{1, 3}), []int{0, 0, 4, 18, 48}, 2, []int{0, 0, 0, 0}},
		// One ring of two edges and one of three meet at a node.
		{netOf(4, [2]int{1, 2}, [2]int{1, 2}, [2]int{2, 3}, [2]int{3, 4}, [2]int{2, 4}), []int{0, 0, 0, 12, 72}, 12, []int{0, 1, 4, 9}},
		// Two rings of three have an edge in common.
		{netOf(4, [2]int{1, 2}, [2]int{1, 3}, [2]int{2, 3}, [2]int{2, 4}, [2]int{3, 4}), []int{0, 0, 0, 6, 48}, 18, []int{0, 0, 2, 6}},
	} {
		c.check(t)
	}
}

func TestColoursOfNetsWithoutEdges(t *testing.T) {
	for nodes := 2; nodes <= impl.MaxNodes; nodes++ {
		for _, none := range [][]impl.Edge{nil, {}} {
			net := impl.Net{Nodes: nodes, Edges: none}
			var painted []int
			for colours := 0; colours <= impl.MaxColours; colours++ {
				painted = append(painted, taken(colours, nodes))
			}
			colourCase{net, painted, 1, []int{1, 1, 1, 1}}.check(t)
			if impl.BackOk(net, 0) || impl.BackOk(net, 1) || impl.BackOk(net, -1) {
				t.Fatal("back without arrows", net)
			}
			for number := -impl.MaxColours; number <= impl.MaxColours; number++ {
				mustBe(t, "PaintedSum", net, paintedSum(t, net, number), taken(number, nodes))
			}
		}
	}
}

func TestColoursOfRings(t *testing.T) {
	for nodes := 2; nodes <= impl.MaxNodes; nodes++ {
		// Round a ring, painting and flowing on must end where it began.
		var painted, flows []int
		for colours := 0; colours <= impl.MaxColours; colours++ {
			painted = append(painted, taken(colours-1, nodes)+taken(-1, nodes)*(colours-1))
		}
		for many := 1; many <= impl.MaxColours; many++ {
			flows = append(flows, many-1)
		}
		ring := ringNet(nodes)
		colourCase{ring, painted, taken(2, nodes) - 2, flows}.check(t)
		if got := impl.CountPainted(ring, 2); (got == 0) != (nodes%2 == 1) {
			t.Fatal("two colours round a ring", nodes, got)
		}
	}
}

func TestColoursOfTrees(t *testing.T) {
	for nodes := 2; nodes <= impl.MaxNodes; nodes++ {
		var painted []int
		for colours := 0; colours <= impl.MaxColours; colours++ {
			painted = append(painted, colours*taken(colours-1, nodes-1))
		}
		for _, tree := range []impl.Net{star(nodes), {Nodes: nodes, Edges: ringNet(nodes).Edges[1:]}} {
			colourCase{tree, painted, taken(2, nodes-1), []int{0, 0, 0, 0}}.check(t)
		}
	}
}

func TestColoursOfEdgesWithTheSameEnds(t *testing.T) {
	for nodes := 2; nodes <= impl.MaxNodes; nodes++ {
		others := nodes - 2
		for many := 1; many <= impl.MaxEdges; many++ {
			c := colourCase{net: impl.Net{Nodes: nodes, Edges: slices.Repeat(edges([2]int{1, nodes}), many)}, noBack: 2, flows: noFlows}
			for colours := 0; colours <= impl.MaxColours; colours++ {
				c.painted = append(c.painted, colours*(colours-1)*taken(colours, others))
			}
			if many <= 6 {
				c.flows = nil
				for of := 1; of <= impl.MaxColours; of++ {
					// All that flows from one end to the other is a multiple.
					c.flows = append(c.flows, (taken(of-1, many)+taken(-1, many)*(of-1))/of)
				}
			}
			c.check(t)
		}
	}
}

func TestSumsExamples(t *testing.T) {
	for _, c := range []struct {
		net  impl.Net
		want []int
	}{
		// For the numbers from -4 to 4.
		{kite(), []int{600, 240, 72, 12, 0, 0, 0, 12, 72}},
		{fours(), []int{840, 360, 120, 24, 0, 0, 0, 0, 24}},
		{netOf(2, [2]int{1, 2}), []int{20, 12, 6, 2, 0, 0, 2, 6, 12}},
		{netOf(3, [2]int{1, 2}, [2]int{2, 3}, [2]int{1, 3}), []int{-120, -60, -24, -6, 0, 0, 0, 6, 24}},
		{netOf(2), []int{16, 9, 4, 1, 0, 1, 4, 9, 16}},
		{netOf(3), []int{-64, -27, -8, -1, 0, 1, 8, 27, 64}},
	} {
		var sums []int
		for number := -impl.MaxColours; number <= impl.MaxColours; number++ {
			sums = append(sums, paintedSum(t, c.net, number))
		}
		mustBeRow(t, "PaintedSum", c.net, sums, c.want)
	}
}

// noSums fails a test if there is a sum of paintings of a net for a number, and noFlowsSum if there is one of flows, or any flow.
func noSums(t *testing.T, net impl.Net, number int) {
	t.Helper()
	if sum, ok := impl.PaintedSum(net, number); sum != 0 || ok {
		t.Fatal("a sum of paintings", net, number, sum, ok)
	}
}

func noFlowsSum(t *testing.T, net impl.Net, number int) {
	t.Helper()
	if sum, ok := impl.FlowsSum(net, number); sum != 0 || ok {
		t.Fatal("a sum of flows", net, number, sum, ok)
	}
	mustBe(t, "CountFlows", net, impl.CountFlows(net, number), -1)
}

func TestWrongColoursAndNumbers(t *testing.T) {
	for _, net := range colourNets() {
		for _, wrong := range wrongNumbers(0, impl.MaxColours+1) {
			mustBe(t, "CountPainted", net, impl.CountPainted(net, wrong), -1)
		}
		for _, wrong := range wrongNumbers(-impl.MaxColours, impl.MaxColours+1) {
			noSums(t, net, wrong)
		}
		for _, wrong := range wrongNumbers(1, impl.MaxColours+1) {
			noFlowsSum(t, net, wrong)
		}
	}
}

func TestWrongArrowsDoNotComeBack(t *testing.T) {
	for _, net := range colourNets() {
		wrong := append(wrongNumbers(0, states(net)), -states(net), -3, 2*states(net)-1)
		for arrows := range states(net) {
			// The low bits of these tell arrows of which some come back.
			wrong = append(wrong, arrows+states(net), arrows-states(net), math.MinInt+arrows)
		}
		for _, arrows := range wrong {
			if impl.BackOk(net, arrows) {
				t.Fatal("back", net, arrows)
			}
		}
	}
}

func TestFlowsOfTooManyEdges(t *testing.T) {
	many := 0
	for _, net := range colourNets() {
		if len(net.Edges) <= 6 {
			continue
		}
		many++
		for number := -1; number <= impl.MaxColours+1; number++ {
			noFlowsSum(t, net, number)
		}
		// Without its edges from the seventh on it has flows, or none.
		net.Edges = net.Edges[:6]
		if impl.CountFlows(net, 4) < 0 {
			t.Fatal("six edges", net)
		}
	}
	if many == 0 {
		t.Fatal("no such nets")
	}
}

func TestInvalidNetsHaveNoColours(t *testing.T) {
	numbers := append(wrongNumbers(-impl.MaxColours, impl.MaxColours+1), -4, -1, 0, 1, 2, 3, 4)
	for _, net := range invalidNets() {
		for _, number := range numbers {
			mustBe(t, "CountPainted", net, impl.CountPainted(net, number), -1)
			noSums(t, net, number)
			noFlowsSum(t, net, number)
		}
		for _, arrows := range append(numbers, 1<<1, 1<<2, 1<<9, 1<<10, 1<<62) {
			if impl.BackOk(net, arrows) {
				t.Fatal("back", net, arrows)
			}
		}
		mustBe(t, "CountNoBack", net, impl.CountNoBack(net), -1)
	}
}

// tellColours returns all that chapter 10 tells of a net, a number and arrows.
func tellColours(net impl.Net, number, arrows int) [][]int {
	painted, known := impl.PaintedSum(net, number)
	flows, told := impl.FlowsSum(net, number)
	row := []int{painted, flows, impl.CountPainted(net, number), impl.CountNoBack(net), impl.CountFlows(net, number)}
	for _, one := range []bool{known, told, impl.BackOk(net, arrows)} {
		if one {
			row = append(row, 1)
		} else {
			row = append(row, 0)
		}
	}
	return [][]int{row}
}

func TestColoursLeaveNetsAsTheyAre(t *testing.T) {
	leavesNetsAsTheyAre(t, func(net impl.Net) [][]int {
		return slices.Concat(tellColours(net, 3, 2), tellColours(net, 4, 5), tellColours(net, -1, 0), tellColours(net, 5, -1))
	})
}

func TestColoursKeepNoState(t *testing.T) {
	keepsNoState(t, func(net impl.Net, at int) [][]int {
		return tellColours(net, at%11-5, at%40-3)
	})
}
