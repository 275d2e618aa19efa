package tests

import (
	"math/bits"
	"slices"
	"testing"

	"loop.example/failingnets/impl"
)

// greatestOnRoads is the greatest of both numbers for which there is a value; the least one is as far below 0.
const greatestOnRoads = 4

// road is one of the three ways to the value of a net for two numbers.
type road struct {
	name string
	tell func(net impl.Net, x, y int) (int, bool)
}

// roads returns the table of all three.
func roads() []road {
	return []road{{"ByStates", impl.ByStates}, {"ByBases", impl.ByBases}, {"ByEdges", impl.ByEdges}}
}

// isValue fails a test unless each of the three roads leads to a value.
func isValue(t *testing.T, net impl.Net, x, y, want int) {
	t.Helper()
	for _, road := range roads() {
		if got, ok := road.tell(net, x, y); !ok || got != want {
			t.Fatalf("%s of %v for %d and %d: %d, %v, not %d", road.name, net, x, y, got, ok, want)
		}
	}
}

// noValue fails a test if one of the three roads leads to a value.
func noValue(t *testing.T, net impl.Net, x, y int) {
	t.Helper()
	for _, road := range roads() {
		if got, ok := road.tell(net, x, y); ok || got != 0 {
			t.Fatalf("%s of %v for %d and %d: %d, %v", road.name, net, x, y, got, ok)
		}
	}
}

// byEdges returns the value that is found edge by edge, which must be there.
func byEdges(t *testing.T, net impl.Net, x, y int) int {
	t.Helper()
	value, ok := impl.ByEdges(net, x, y)
	if !ok {
		t.Fatal("no value", net, x, y)
	}
	return value
}

// numberPairs returns each two numbers for which there is a value.
func numberPairs() [][2]int {
	var list [][2]int
	for x := -greatestOnRoads; x <= greatestOnRoads; x++ {
		for y := -greatestOnRoads; y <= greatestOnRoads; y++ {
			list = append(list, [2]int{x, y})
		}
	}
	return list
}

// pairsOfNumbers returns all of these pairs for nets of few edges, and for others some, by the place of the net, the greatest and least numbers among them.
func pairsOfNumbers(net impl.Net, at int) [][2]int {
	list := numberPairs()
	if len(net.Edges) <= 5 {
		return list
	}
	some := [][2]int{{-4, -4}, {4, 4}, {-4, 4}, {4, -4}, {0, 0}, {1, 1}, {2, 0}, {0, 2}, {2, 2}}
	for i := at % 9; i < len(list); i += 9 {
		some = append(some, list[i])
	}
	return some
}

// roadNets returns nets of all kinds, with a few more that are in pieces or have two or three edges with the same ends.
func roadNets() []impl.Net {
	return append(colourNets(),
		netOf(6, [2]int{1, 2}, [2]int{1, 2}, [2]int{3, 4}, [2]int{3, 4}, [2]int{3, 4}, [2]int{5, 6}),
		netOf(6, [2]int{3, 4}, [2]int{1, 2}, [2]int{3, 4}, [2]int{2, 5}, [2]int{1, 2}, [2]int{3, 4}, [2]int{1, 5}),
		netOf(5, [2]int{1, 3}, [2]int{2, 4}, [2]int{1, 5}, [2]int{2, 4}, [2]int{3, 5}),
		netOf(4, [2]int{1, 4}, [2]int{1, 4}, [2]int{1, 2}, [2]int{1, 4}, [2]int{2, 4}, [2]int{2, 3}, [2]int{2, 3}),
		netOf(6, [2]int{1, 2}, [2]int{2, 3}, [2]int{1, 3}, [2]int{3, 4}, [2]int{4, 5}, [2]int{5, 6}, [2]int{4, 6}, [2]int{5, 6}, [2]int{5, 6}),
	)
}

// allThere returns the state of all edges.
func allThere(net impl.Net) int {
	return states(net) - 1
}

// rankBy returns how many fewer pieces than nodes there are in a state, found by ways.
func rankBy(net impl.Net, state int) int {
	return net.Nodes - waysIn(net, state).pieces(net.Nodes)
}

// otherBases finds least states among all of as many edges as there are in each of them: those that have ways as all edges have.
func otherBases(net impl.Net) []int {
	all := waysIn(net, allThere(net))
	return slices.DeleteFunc(allOfSize(len(net.Edges), rankBy(net, allThere(net))), func(state int) bool {
		return waysIn(net, state) != all
	})
}

// otherActive counts first edges in another way: of those that are there by the cut without them, of others by the ring with them.
func otherActive(net impl.Net, base int) (int, int) {
	there, others := 0, 0
	for at := range net.Edges {
		if base>>at%2 == 1 {
			if bits.TrailingZeros(uint(otherCut(net, base, at))) == at {
				there++
			}
		} else if bits.TrailingZeros(uint(otherRing(net, base|1<<at))) == at {
			others++
		}
	}
	return there, others
}

// otherValue finds the value in another way: edge by edge, the sums over states kept by the nodes that are made one.
func otherValue(net impl.Net, x, y int) int {
	type heads [impl.MaxNodes + 1]int
	var apart heads
	for node := range apart {
		apart[node] = node
	}
	sums := map[heads]int{apart: 1}
	for _, edge := range net.Edges {
		next := map[heads]int{}
		for before, sum := range sums {
			next[before] += sum
			if before[edge.A] == before[edge.B] {
				next[before] += sum * (y - 1)
				continue
			}
			after := before
			for node, head := range before {
				if head == before[edge.A] || head == before[edge.B] {
					after[node] = min(before[edge.A], before[edge.B])
				}
			}
			next[after] += sum
		}
		sums = next
	}
	value := 0
	for last, sum := range sums {
		count := 0
		for node := 1; node <= net.Nodes; node++ {
			if last[node] == node {
				count++
			}
		}
		value += sum * taken(x-1, count-net.Nodes+rankBy(net, allThere(net)))
	}
	return value
}

func TestPromise70LeastStatesHaveAllTheRank(t *testing.T) {
	trees := 0
	for _, net := range roadNets() {
		bases := impl.BasesOf(net)
		if len(bases) == 0 {
			t.Fatal("no least state", net)
		}
		rank := impl.RankOf(net, allThere(net))
		for _, base := range bases {
			if !impl.RingFreeOk(net, base) {
				t.Fatal("a ring", net, base)
			}
			mustBe(t, "rank", net, impl.RankOf(net, base), rank)
		}
		if impl.WholeOk(net, allThere(net)) {
			trees++
			mustBeRow(t, "BasesOf", net, bases, impl.TreesOf(net))
		}
	}
	if trees == 0 {
		t.Fatal("no net is whole")
	}
}

func TestBasesAreThoseFoundOtherwise(t *testing.T) {
	for _, net := range roadNets() {
		mustBeRow(t, "BasesOf", net, impl.BasesOf(net), otherBases(net))
	}
}

// isActive fails a test unless a state is a least one with so many first edges that are there, and that are not.
func isActive(t *testing.T, net impl.Net, base, there, others int) {
	t.Helper()
	if gotThere, gotOthers, ok := impl.ActiveOf(net, base); !ok || gotThere != there || gotOthers != others {
		t.Fatal("ActiveOf", net, base, gotThere, gotOthers, ok, "and not", there, others)
	}
}

func TestPromise71TheFirstLeastStateHasAllFirstEdges(t *testing.T) {
	for _, net := range roadNets() {
		bases := impl.BasesOf(net)
		rank := impl.RankOf(net, allThere(net))
		isActive(t, net, bases[0], rank, 0)
		for _, base := range bases {
			there, others, ok := impl.ActiveOf(net, base)
			if !ok || there < 0 || others < 0 || there > rank || there+others > len(net.Edges) {
				t.Fatal("too many first edges, or too few", net, base, there, others, ok)
			}
			if len(net.Edges) > 0 && there+others == 0 {
				t.Fatal("no first edge", net, base)
			}
		}
		got, ok := impl.ByBases(net, 1, 1)
		if !ok {
			t.Fatal("no value", net)
		}
		mustBe(t, "ByBases for 1 and 1", net, got, len(bases))
	}
}

func TestFirstEdgesAreThoseFoundOtherwise(t *testing.T) {
	for _, net := range roadNets() {
		for _, base := range impl.BasesOf(net) {
			there, others := otherActive(net, base)
			isActive(t, net, base, there, others)
		}
	}
}

func TestPromise72ThreeRoadsLeadToOneValue(t *testing.T) {
	for at, net := range roadNets() {
		for _, pair := range pairsOfNumbers(net, at) {
			want, ok := impl.ByStates(net, pair[0], pair[1])
			if !ok {
				t.Fatal("no value", net, pair)
			}
			isValue(t, net, pair[0], pair[1], want)
		}
	}
}

func TestValuesAreThoseFoundOtherwise(t *testing.T) {
	for at, net := range roadNets() {
		for _, pair := range pairsOfNumbers(net, at+1) {
			isValue(t, net, pair[0], pair[1], otherValue(net, pair[0], pair[1]))
		}
	}
}

func TestAllNumbersOnAllRoads(t *testing.T) {
	for _, net := range []impl.Net{fullNet(), threesNet(), prism(), twoRings()} {
		for _, pair := range numberPairs() {
			isValue(t, net, pair[0], pair[1], otherValue(net, pair[0], pair[1]))
		}
	}
}

func TestPromise73TheOrderOfEdgesDoesNotMatter(t *testing.T) {
	for at, net := range roadNets() {
		turned := copyOf(net)
		slices.Reverse(turned.Edges)
		for _, pair := range pairsOfNumbers(net, at+2) {
			isValue(t, turned, pair[0], pair[1], byEdges(t, net, pair[0], pair[1]))
		}
	}
}

func TestAnyOrderOfEdgesLeadsToOneValue(t *testing.T) {
	for _, net := range []impl.Net{kite(), ringNet(4), roadNets()[len(roadNets())-3]} {
		for _, order := range allOrders(len(net.Edges)) {
			other := impl.Net{Nodes: net.Nodes}
			for _, at := range order {
				other.Edges = append(other.Edges, net.Edges[at])
			}
			for _, pair := range [][2]int{{2, 3}, {-4, 3}, {0, -1}} {
				isValue(t, other, pair[0], pair[1], otherValue(net, pair[0], pair[1]))
			}
		}
	}
}

func TestPromise74TheValueTellsTreesStatesAndArrows(t *testing.T) {
	for _, net := range roadNets() {
		isValue(t, net, 1, 1, len(impl.BasesOf(net)))
		isValue(t, net, 2, 1, sumOf(impl.ForestCounts(net)))
		isValue(t, net, 2, 2, states(net))
		isValue(t, net, 2, 0, impl.CountNoBack(net))
		isValue(t, net, 0, 2, impl.CountAllBack(net))
	}
}

// allBackFrom finds out in another way whether one comes back along each arrow: from where it leads, along one arrow after the other.
func allBackFrom(net impl.Net, arrows int) bool {
	for at, edge := range net.Edges {
		begins, here := edge.A, 1<<edge.B
		if arrows>>at%2 == 1 {
			begins, here = edge.B, 1<<edge.A
		}
		for range net.Nodes {
			for other, along := range net.Edges {
				from, to := along.A, along.B
				if arrows>>other%2 == 1 {
					from, to = to, from
				}
				here |= here >> from % 2 << to
			}
		}
		if here>>begins%2 == 0 {
			return false
		}
	}
	return true
}

func TestArrowsAllBackAreThoseCountedOtherwise(t *testing.T) {
	for _, net := range roadNets() {
		count := 0
		for arrows := range states(net) {
			if allBackFrom(net, arrows) {
				count++
			}
		}
		mustBe(t, "CountAllBack", net, impl.CountAllBack(net), count)
	}
}

func TestPromise75NoEdgeWithoutReturnOrSome(t *testing.T) {
	none := 0
	for _, net := range roadNets() {
		got := impl.CountAllBack(net)
		if (got == 0) != joinsAlone(net) {
			t.Fatal("CountAllBack", net, got, joinsAlone(net))
		}
		if got == 0 {
			none++
		}
		if len(net.Edges) == 0 {
			mustBe(t, "CountAllBack without edges", net, got, 1)
		} else if got < 0 || got > states(net)-impl.CountNoBack(net) {
			t.Fatal("more than all that come back", net, got)
		}
	}
	if none == 0 || none == len(roadNets()) {
		t.Fatal("nets of one kind", none)
	}
}

// withSign returns a number, or it with the other sign for what is odd.
func withSign(odd, number int) int {
	return taken(-1, odd) * number
}

func TestPromise76PaintingsAreToldByTheValue(t *testing.T) {
	for _, net := range roadNets() {
		all := allThere(net)
		for colours := 1; colours <= impl.MaxColours; colours++ {
			value := byEdges(t, net, 1-colours, 0) * taken(colours, impl.PiecesIn(net, all))
			mustBe(t, "CountPainted", net, impl.CountPainted(net, colours), withSign(impl.RankOf(net, all), value))
		}
	}
}

func TestPromise77FlowsAreToldByTheValue(t *testing.T) {
	for _, net := range append(flowNets(), roadNets()...) {
		if len(net.Edges) > 6 {
			continue
		}
		more := len(net.Edges) - impl.RankOf(net, allThere(net))
		for many := 1; many <= impl.MaxColours; many++ {
			mustBe(t, "CountFlows", net, impl.CountFlows(net, many), withSign(more, byEdges(t, net, 0, 1-many)))
		}
	}
}

func TestPromise78WholeStatesAreToldByTheValue(t *testing.T) {
	whole := 0
	for _, net := range roadNets() {
		if !impl.WholeOk(net, allThere(net)) {
			continue
		}
		whole++
		mustBe(t, "the value for 1 and 2", net, byEdges(t, net, 1, 2), sumOf(impl.WholeCounts(net)))
	}
	if whole == 0 {
		t.Fatal("no net is whole")
	}
}
