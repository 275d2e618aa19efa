package tests

import (
	"math"
	"math/rand"
	"slices"
	"testing"

	"loop.example/failingnets/impl"
)

// chance is so many parts of so many.
type chance struct {
	parts int
	of    int
}

// left returns the chance that something is not there.
func (c chance) left() chance {
	return chance{c.of - c.parts, c.of}
}

// chances returns all chances that there are.
func chances() []chance {
	var list []chance
	for of := 1; of <= 5; of++ {
		for parts := 0; parts <= of; parts++ {
			list = append(list, chance{parts, of})
		}
	}
	return list
}

// wrongChances returns what is no chance: no parts in all, too many of them, parts below 0, and more than all.
func wrongChances() []chance {
	var list []chance
	for _, of := range wrongNumbers(1, impl.MaxParts+1) {
		for _, parts := range []int{math.MinInt, -1, 0, 1, 2, 5, of, of / 2, of - 1, math.MaxInt} {
			list = append(list, chance{parts, of})
		}
	}
	for of := 1; of <= impl.MaxParts; of++ {
		for _, parts := range wrongNumbers(0, of+1) {
			list = append(list, chance{parts, of})
		}
	}
	return list
}

// taken multiplies 1 by a number, so many times.
func taken(number, times int) int {
	product := 1
	for range times {
		product *= number
	}
	return product
}

// isWays fails a test if a row of counts has not so many ways with a chance.
func isWays(t *testing.T, counts []int, c chance, want int) {
	t.Helper()
	if got := impl.WaysOf(counts, c.parts, c.of); got != want {
		t.Fatalf("ways of %v with %v: %d, not %d", counts, c, got, want)
	}
}

// countRows returns rows of all lengths that may be, with the least and greatest counts among them.
func countRows() [][]int {
	draw := rand.New(rand.NewSource(5))
	var list [][]int
	for many := 1; many <= 10; many++ {
		for _, count := range []int{0, 1, 999, 1000} {
			list = append(list, slices.Repeat([]int{count}, many))
		}
		for at := range many {
			one := make([]int, many)
			one[at] = 1 + draw.Intn(1000)
			list = append(list, one)
		}
		for range 20 {
			var row []int
			for range many {
				row = append(row, draw.Intn(1001))
			}
			list = append(list, row)
		}
	}
	return list
}

// otherWays weights counts in another way: without a table, each count making all before it lack one thing more.
func otherWays(counts []int, c chance) int {
	ways := 0
	for there, count := range counts {
		ways = ways*(c.of-c.parts) + count*taken(c.parts, there)
	}
	return ways
}

func TestConstantsOfChances(t *testing.T) {
	if impl.MaxParts != 5 {
		t.Fatal(impl.MaxParts)
	}
}

func TestPromise22NoneAndAllAreChances(t *testing.T) {
	for of := 1; of <= impl.MaxParts; of++ {
		if !impl.ChanceOk(0, of) || !impl.ChanceOk(of, of) {
			t.Fatal("none or all", of)
		}
	}
	for of := -10; of <= 10; of++ {
		for parts := -20; parts <= 20; parts++ {
			want := slices.Contains(chances(), chance{parts, of})
			if impl.ChanceOk(parts, of) != want {
				t.Fatal("ChanceOk", parts, of, !want)
			}
			if impl.ChanceOk(of-parts, of) != want {
				t.Fatal("the parts that are left", parts, of)
			}
		}
	}
}

func TestWrongChances(t *testing.T) {
	for _, c := range wrongChances() {
		if impl.ChanceOk(c.parts, c.of) || impl.ChanceOk(c.of-c.parts, c.of) {
			t.Fatal("a chance", c)
		}
	}
}

func TestPromise23CountsOfAllStatesAreAllWays(t *testing.T) {
	for _, row := range countRows() {
		things := len(row) - 1
		turned := slices.Clone(row)
		slices.Reverse(turned)
		for _, c := range chances() {
			isWays(t, row, c, otherWays(row, c))
			isWays(t, turned, c.left(), otherWays(row, c))
		}
		for of := 1; of <= impl.MaxParts; of++ {
			isWays(t, row, chance{0, of}, row[0]*taken(of, things))
			isWays(t, row, chance{of, of}, row[things]*taken(of, things))
		}
	}
	for things := range 10 {
		for _, c := range chances() {
			isWays(t, choiceRow(things), c, taken(c.of, things))
		}
	}
}

func TestWaysExamples(t *testing.T) {
	for _, c := range []struct {
		counts []int
		chance chance
		want   int
	}{
		{[]int{1, 2}, chance{2, 3}, 5},
		{[]int{1, 2}, chance{1, 3}, 4},
		{[]int{0, 0, 1, 3, 1}, chance{1, 2}, 5},
		{[]int{0, 0, 1, 3, 1}, chance{2, 3}, 44},
		{[]int{0, 0, 1, 3, 1}, chance{1, 3}, 11},
		{[]int{3, 5, 7}, chance{2, 5}, 27 + 30 + 28},
		{[]int{3, 5, 7}, chance{3, 5}, 12 + 30 + 63},
		{[]int{7, 0, 0, 0}, chance{1, 5}, 448},
		{[]int{0, 0, 0, 7}, chance{1, 5}, 7},
	} {
		isWays(t, c.counts, c.chance, c.want)
	}
}

func TestWaysOfTheShortestAndLongestRows(t *testing.T) {
	for _, c := range chances() {
		for _, count := range []int{0, 1, 2, 999, 1000} {
			// Of no things each is there and none is.
			isWays(t, []int{count}, c, count)
		}
		isWays(t, make([]int, 10), c, 0)
	}
	for _, count := range []int{1, 1000} {
		row := slices.Repeat([]int{count}, 10)
		isWays(t, row, chance{0, 1}, count)
		isWays(t, row, chance{1, 1}, count)
		isWays(t, row, chance{1, 2}, count*10)
		isWays(t, row, chance{2, 4}, count*5120)
		isWays(t, row, chance{2, 5}, count*58025)
		isWays(t, row, chance{3, 5}, count*58025)
		isWays(t, row, chance{0, 5}, count*1953125)
		isWays(t, row, chance{5, 5}, count*1953125)
	}
}

func TestWrongRowsHaveNoWays(t *testing.T) {
	rows := [][]int{nil, {}}
	for _, many := range []int{11, 12, 20, 30, 31, 64, 65, 1000} {
		rows = append(rows, make([]int, many), slices.Repeat([]int{1}, many), slices.Repeat([]int{1000}, many))
	}
	for many := 1; many <= 10; many++ {
		for at := range many {
			for _, wrong := range wrongNumbers(0, 1001) {
				row := slices.Repeat([]int{1}, many)
				row[at] = wrong
				rows = append(rows, row)
			}
		}
	}
	for _, row := range rows {
		for _, c := range append(chances(), chance{0, 0}, chance{1, 6}, chance{3, 2}, chance{-1, 1}) {
			isWays(t, row, c, -1)
		}
	}
}

func TestWrongChancesHaveNoWays(t *testing.T) {
	for _, c := range wrongChances() {
		for _, row := range [][]int{{0}, {1}, {1000}, {1, 2}, {0, 0, 1, 3, 1}, make([]int, 10), slices.Repeat([]int{1000}, 10), nil, {-1}} {
			isWays(t, row, c, -1)
		}
	}
}

// somePairs returns some two different nodes of a net, both ways: the first and the second one, the first and the last one, and both in the middle.
func somePairs(net impl.Net) [][2]int {
	last := net.Nodes
	return [][2]int{{1, 2}, {2, 1}, {1, last}, {last, 1}, {last/2 + 1, last / 2}}
}

func TestPromise24MorePartsAreMoreWays(t *testing.T) {
	for _, net := range validNets() {
		for _, pair := range somePairs(net) {
			for of := 1; of <= impl.MaxParts; of++ {
				all, before := impl.AllWays(net, of), 0
				mustBe(t, "ways for 0 parts", net, impl.JoinedWays(net, pair[0], pair[1], 0, of), 0)
				for parts := 0; parts <= of; parts++ {
					got := impl.JoinedWays(net, pair[0], pair[1], parts, of)
					if got < before || got > all {
						t.Fatal("fewer ways for one part more, or more than all", net, pair, parts, of, got)
					}
					mustBe(t, "both exchanged", net, impl.JoinedWays(net, pair[1], pair[0], parts, of), got)
					before = got
				}
			}
		}
	}
}

func TestPromise25AnEdgeIsThereOrNotWithItsChance(t *testing.T) {
	for _, net := range validNets() {
		for of := 1; of <= impl.MaxParts; of++ {
			before := 0
			for parts := 0; parts <= of; parts++ {
				got := impl.WholeWays(net, parts, of)
				if got < before || got > impl.AllWays(net, of) {
					t.Fatal("fewer ways for one part more, or more than all", net, parts, of, got)
				}
				before = got
			}
		}
		if net.Nodes < 3 {
			continue
		}
		for at := range net.Edges {
			thereOrNot(t, net, at)
		}
	}
}

// thereOrNot fails a test unless the ways of a net are put together from those with an edge and those without it, and those of both ends of the edge as well.
func thereOrNot(t *testing.T, net impl.Net, at int) {
	t.Helper()
	edge := net.Edges[at]
	without, _ := impl.WithoutEdge(net, at)
	made, left, _ := impl.MadeOne(net, at)
	for _, c := range chances() {
		// Each edge that is left out with this one is told in any way.
		there := impl.WholeWays(made, c.parts, c.of) * taken(c.of, left)
		lacks := impl.WholeWays(without, c.parts, c.of)
		mustBe(t, "WholeWays", net, impl.WholeWays(net, c.parts, c.of), lacks*(c.of-c.parts)+there*c.parts)
	}
	for _, c := range []chance{{1, 2}, {2, 5}, {0, 4}, {3, 3}} {
		lacks := impl.JoinedWays(without, edge.A, edge.B, c.parts, c.of)
		mustBe(t, "JoinedWays", net, impl.JoinedWays(net, edge.A, edge.B, c.parts, c.of),
			lacks*(c.of-c.parts)+impl.AllWays(without, c.of)*c.parts)
	}
}

func TestPromise26AllWaysAreMultipliedByAnEdge(t *testing.T) {
	for _, net := range validNets() {
		mustBe(t, "for 1 part", net, impl.AllWays(net, 1), 1)
		for of := 1; of <= impl.MaxParts; of++ {
			got := impl.AllWays(net, of)
			mustBe(t, "AllWays", net, got, taken(of, len(net.Edges)))
			if len(net.Edges) == 0 {
				continue
			}
			without, _ := impl.WithoutEdge(net, len(net.Edges)-1)
			mustBe(t, "divided by the parts", net, impl.AllWays(without, of)*of, got)
		}
	}
}

// wayCase is what chapter 5 tells of a net, and of two of its nodes, with a chance.
type wayCase struct {
	net    impl.Net
	a      int
	b      int
	chance chance
	joined int
	whole  int
	all    int
}

// check fails a test unless all is told of a net as its case has it, for both nodes and for both exchanged.
func (c wayCase) check(t *testing.T) {
	t.Helper()
	got := tellWays(c.net, c.a, c.b, c.chance)
	mustBeRow(t, "ways", c, got[0], []int{c.joined, c.joined, c.whole, c.all})
}

// tellWays returns all that chapter 5 tells of a net and two nodes with a chance.
func tellWays(net impl.Net, a, b int, c chance) [][]int {
	return [][]int{{
		impl.JoinedWays(net, a, b, c.parts, c.of), impl.JoinedWays(net, b, a, c.parts, c.of),
		impl.WholeWays(net, c.parts, c.of), impl.AllWays(net, c.of),
	}}
}

// noWays fails a test unless two nodes of a net have no ways with a chance.
func noWays(t *testing.T, net impl.Net, a, b int, c chance) {
	t.Helper()
	mustBe(t, "JoinedWays", net, impl.JoinedWays(net, a, b, c.parts, c.of), -1)
	mustBe(t, "JoinedWays", net, impl.JoinedWays(net, b, a, c.parts, c.of), -1)
}

// toldOneByOne finds ways in another way: each edge is told by each of so many numbers, and is there for the first parts.
func toldOneByOne(net impl.Net, a, b int, c chance) wayCase {
	told := wayCase{net: net, a: a, b: b, chance: c}
	var tell func(at, state int)
	tell = func(at, state int) {
		if at < len(net.Edges) {
			for number := range c.of {
				if number < c.parts {
					tell(at+1, state|1<<at)
				} else {
					tell(at+1, state)
				}
			}
			return
		}
		told.all++
		w := waysIn(net, state)
		if w[a][b] {
			told.joined++
		}
		if w.pieces(net.Nodes) == 1 {
			told.whole++
		}
	}
	tell(0, 0)
	return told
}

// weighted finds ways in another way: each state is taken as often as all of its edges are told so.
func weighted(net impl.Net, a, b int, c chance) wayCase {
	told := wayCase{net: net, a: a, b: b, chance: c}
	for state := range states(net) {
		weight := 1
		for at := range net.Edges {
			if state>>at%2 == 1 {
				weight *= c.parts
			} else {
				weight *= c.of - c.parts
			}
		}
		told.all += weight
		w := waysIn(net, state)
		if w[a][b] {
			told.joined += weight
		}
		if w.pieces(net.Nodes) == 1 {
			told.whole += weight
		}
	}
	return told
}

func TestWaysAreThoseFoundOtherwise(t *testing.T) {
	for at, net := range validNets() {
		for i, c := range chances() {
			pairs := nodePairs(net)
			pair := pairs[(at+i)%len(pairs)]
			if taken(c.of, len(net.Edges)) <= 256 {
				toldOneByOne(net, pair[0], pair[1], c).check(t)
			}
			if (at+i)%4 == 0 {
				weighted(net, pair[0], pair[1], c).check(t)
			}
		}
	}
}

func TestWaysOfNetsExamples(t *testing.T) {
	bridge := netOf(4, [2]int{1, 2}, [2]int{1, 3}, [2]int{2, 3}, [2]int{2, 4}, [2]int{3, 4})
	for _, c := range []wayCase{
		{kite(), 1, 4, chance{1, 2}, 5, 4, 16},
		{kite(), 1, 3, chance{1, 2}, 10, 4, 16},
		{kite(), 1, 4, chance{1, 3}, 11, 7, 81},
		{kite(), 1, 4, chance{2, 3}, 44, 40, 81},
		{kite(), 3, 4, chance{2, 5}, 250, 88, 625},
		{bridge, 1, 4, chance{1, 2}, 16, 14, 32},
		{bridge, 1, 4, chance{0, 3}, 0, 0, 243},
		{bridge, 1, 4, chance{3, 3}, 243, 243, 243},
		{netOf(3, [2]int{1, 2}), 1, 2, chance{3, 5}, 3, 0, 5},
		{netOf(3, [2]int{1, 2}), 2, 3, chance{3, 5}, 0, 0, 5},
	} {
		c.check(t)
	}
}

func TestWaysForNoneAndAll(t *testing.T) {
	for _, net := range validNets() {
		w := waysIn(net, states(net)-1)
		for _, pair := range somePairs(net) {
			for of := 1; of <= impl.MaxParts; of++ {
				all := taken(of, len(net.Edges))
				wayCase{net, pair[0], pair[1], chance{0, of}, 0, 0, all}.check(t)
				// With all parts each edge is there however it is told.
				sure := wayCase{net, pair[0], pair[1], chance{of, of}, 0, 0, all}
				if w[pair[0]][pair[1]] {
					sure.joined = all
				}
				if w.pieces(net.Nodes) == 1 {
					sure.whole = all
				}
				sure.check(t)
			}
		}
	}
}

func TestWaysOfNetsWithoutEdges(t *testing.T) {
	for nodes := 2; nodes <= impl.MaxNodes; nodes++ {
		for _, none := range [][]impl.Edge{nil, {}} {
			net := impl.Net{Nodes: nodes, Edges: none}
			for _, pair := range nodePairs(net) {
				for _, c := range chances() {
					wayCase{net, pair[0], pair[1], c, 0, 0, 1}.check(t)
				}
			}
		}
	}
}

func TestWaysOfEdgesWithTheSameEnds(t *testing.T) {
	for nodes := 2; nodes <= impl.MaxNodes; nodes++ {
		for many := 1; many <= impl.MaxEdges; many++ {
			net := impl.Net{Nodes: nodes, Edges: slices.Repeat(edges([2]int{nodes - 1, nodes}), many)}
			for _, c := range chances() {
				// All ways but those in which none is there.
				all := taken(c.of, many)
				some := all - taken(c.of-c.parts, many)
				told := wayCase{net, nodes - 1, nodes, c, some, 0, all}
				if nodes == 2 {
					told.whole = some
				}
				told.check(t)
				if nodes > 2 {
					wayCase{net, 1, nodes, c, 0, 0, all}.check(t)
				}
			}
		}
	}
}

func TestWaysOfEdgesOneAfterTheOther(t *testing.T) {
	net := ladder([]int{3, 0, 4, 1, 2})
	for _, c := range chances() {
		all := taken(c.parts, 5)
		wayCase{net, 1, impl.MaxNodes, c, all, all, taken(c.of, 5)}.check(t)
		wayCase{net, 2, 4, c, taken(c.parts, 2) * taken(c.of, 3), all, taken(c.of, 5)}.check(t)
	}
}

func TestWaysOfTheGreatestNets(t *testing.T) {
	// Of 5 edges on 81, 78, 36, 9 and 1 states are whole.
	threes := threesNet()
	mustBe(t, "one of two", threes, impl.WholeWays(threes, 1, 2), 205)
	mustBe(t, "two of three", threes, impl.WholeWays(threes, 2, 3), 81*32+78*64+36*128+9*256+512)
	mustBe(t, "four of five", threes, impl.WholeWays(threes, 4, 5), 81*1024+78*4096+36*16384+9*65536+262144)
	for _, net := range []impl.Net{threes, fullNet()} {
		for _, pair := range nodePairs(net) {
			weighted(net, pair[0], pair[1], chance{2, 5}).check(t)
			weighted(net, pair[0], pair[1], chance{3, 4}).check(t)
			wayCase{net, pair[0], pair[1], chance{0, 5}, 0, 0, 1953125}.check(t)
			wayCase{net, pair[0], pair[1], chance{5, 5}, 1953125, 1953125, 1953125}.check(t)
			wayCase{net, pair[0], pair[1], chance{1, 1}, 1, 1, 1}.check(t)
		}
	}
}

func TestWrongNodesAreInNoWayJoined(t *testing.T) {
	for _, net := range validNets() {
		for node := 1; node <= net.Nodes; node++ {
			for _, c := range []chance{{0, 1}, {1, 2}, {5, 5}, {1, 0}} {
				noWays(t, net, node, node, c)
			}
		}
		for _, wrong := range wrongNumbers(1, net.Nodes+1) {
			noWays(t, net, 1, wrong, chance{1, 2})
			noWays(t, net, wrong, wrong, chance{2, 2})
			noWays(t, net, net.Nodes, wrong, chance{0, 5})
		}
		noWays(t, net, 0, net.Nodes+1, chance{1, 1})
		noWays(t, net, math.MinInt, math.MaxInt, chance{1, 1})
	}
}

func TestWrongChancesHaveNoWaysOfNets(t *testing.T) {
	for _, net := range []impl.Net{{Nodes: 2}, {Nodes: 6}, kite(), fullNet(), netOf(2, [2]int{1, 2})} {
		for _, c := range wrongChances() {
			noWays(t, net, 1, 2, c)
			noWays(t, net, 1, 1, c)
			mustBe(t, "WholeWays", net, impl.WholeWays(net, c.parts, c.of), -1)
		}
		for _, of := range wrongNumbers(1, impl.MaxParts+1) {
			mustBe(t, "AllWays", net, impl.AllWays(net, of), -1)
		}
	}
}

func TestInvalidNetsHaveNoWays(t *testing.T) {
	for _, net := range invalidNets() {
		for _, c := range append(chances(), chance{0, 0}, chance{1, 6}, chance{math.MinInt, math.MaxInt}) {
			noWays(t, net, 1, 2, c)
			noWays(t, net, 1, net.Nodes, c)
			noWays(t, net, 1, 1, c)
			mustBe(t, "WholeWays", net, impl.WholeWays(net, c.parts, c.of), -1)
			mustBe(t, "AllWays", net, impl.AllWays(net, c.of), -1)
		}
	}
}

func TestWaysLeaveRowsAsTheyAre(t *testing.T) {
	for _, row := range append(countRows(), nil, make([]int, 11), []int{1001}, []int{-1, 1}) {
		lent, memory := lentRow(row)
		before := slices.Clone(memory)
		for _, c := range append(chances(), chance{1, 0}) {
			first := impl.WaysOf(lent, c.parts, c.of)
			isWays(t, slices.Clone(row), c, first)
			isWays(t, lent, c, first)
		}
		if !slices.Equal(memory, before) {
			t.Fatal("written to", row)
		}
	}
}

func TestWaysLeaveNetsAsTheyAre(t *testing.T) {
	leavesNetsAsTheyAre(t, func(net impl.Net) [][]int {
		return slices.Concat(tellWays(net, 1, 2, chance{1, 2}), tellWays(net, net.Nodes, 1, chance{3, 5}), tellWays(net, 1, 2, chance{1, 0}))
	})
}

func TestWaysKeepNoState(t *testing.T) {
	all := append(chances(), chance{0, 0}, chance{1, 6})
	keepsNoState(t, func(net impl.Net, at int) [][]int {
		c := all[at%len(all)]
		return append(tellWays(net, 1, net.Nodes, c), []int{impl.WaysOf(impl.WholeCounts(net), c.parts, c.of), impl.WaysOf([]int{at % 1003}, c.parts, c.of)})
	})
}
