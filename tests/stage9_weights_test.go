package tests

import (
	"math"
	"math/rand"
	"slices"
	"testing"

	"loop.example/failingnets/impl"
)

// weightsFor returns rows of weights for so many edges: all equal, the least and the greatest among them, ascending and descending, and drawn ones, most of them with equal ones.
func weightsFor(many int, draw *rand.Rand) [][]int {
	list := [][]int{make([]int, many), slices.Repeat([]int{99}, many), slices.Repeat([]int{7}, many)}
	var up []int
	for at := range many {
		up = append(up, 11*at)
	}
	down := slices.Clone(up)
	slices.Reverse(down)
	list = append(list, up, down)
	for _, greatest := range []int{1, 2, 4, 99, 99} {
		var drawn []int
		for range many {
			drawn = append(drawn, draw.Intn(greatest+1))
		}
		list = append(list, drawn)
	}
	return list
}

// weightOf adds the weights of all edges that are there in a state, one by one.
func weightOf(net impl.Net, weights []int, state int) int {
	sum := 0
	for _, at := range present(net, state) {
		sum += weights[at]
	}
	return sum
}

// leastTree finds the tree by weight in another way: of all least heavy trees it is the one with the least number. For with the number of its state for a further weight, less than that of one of before, each tree has a weight of its own, and the edges have the order in which they are taken.
func leastTree(net impl.Net, weights []int) int {
	least := -1
	for _, tree := range otherTrees(net) {
		if least == -1 || weightOf(net, weights, tree) < weightOf(net, weights, least) {
			least = tree
		}
	}
	return least
}

// isByWeight fails a test unless such a tree is found by weight.
func isByWeight(t *testing.T, net impl.Net, weights []int, want int) {
	t.Helper()
	if got, ok := impl.ByWeight(net, weights); !ok || got != want {
		t.Fatalf("tree of %v by weights %v: %d, %v, not %d", net, weights, got, ok, want)
	}
}

// isByExchange fails a test unless exchanges from a tree lead to such a weight.
func isByExchange(t *testing.T, net impl.Net, weights []int, tree, want int) {
	t.Helper()
	if got, ok := impl.ByExchange(net, weights, tree); !ok || got != want {
		t.Fatalf("weight of %v by exchanges from %d with weights %v: %d, %v, not %d", net, tree, weights, got, ok, want)
	}
}

// noByWeight fails a test if a tree is found by weight, and noByExchange if a weight is found by exchanges.
func noByWeight(t *testing.T, net impl.Net, weights []int) {
	t.Helper()
	if got, ok := impl.ByWeight(net, weights); ok || got != -1 {
		t.Fatal("a tree by weight", net, weights, got, ok)
	}
}

func noByExchange(t *testing.T, net impl.Net, weights []int, tree int) {
	t.Helper()
	if got, ok := impl.ByExchange(net, weights, tree); ok || got != -1 {
		t.Fatal("a weight by exchanges", net, weights, tree, got, ok)
	}
}

// noWeights fails a test if weights are ones of a net, or something is told with them.
func noWeights(t *testing.T, net impl.Net, weights []int, tree int) {
	t.Helper()
	if impl.WeightsOk(net, weights) {
		t.Fatal("weights", net, weights)
	}
	for _, state := range []int{tree, 0, 1, -1, math.MinInt, math.MaxInt} {
		mustBe(t, "HeavyOf", net, impl.HeavyOf(net, weights, state), -1)
		noByExchange(t, net, weights, state)
	}
	noByWeight(t, net, weights)
}

func TestPromise58EachEdgeHasAWeight(t *testing.T) {
	draw := rand.New(rand.NewSource(58))
	for _, net := range treeNets() {
		if !impl.WeightsOk(net, make([]int, len(net.Edges))) {
			t.Fatal("weights 0 are none", net)
		}
		for _, weights := range weightsFor(len(net.Edges), draw) {
			if !impl.WeightsOk(net, weights) {
				t.Fatal("no weights", net, weights)
			}
			if len(weights) > 0 && impl.WeightsOk(net, weights[:len(weights)-1]) {
				t.Fatal("without the last one", net, weights)
			}
			if impl.WeightsOk(net, append(slices.Clone(weights), 0)) {
				t.Fatal("one more than edges", net, weights)
			}
		}
	}
	for _, none := range [][]int{nil, {}} {
		if !impl.WeightsOk(impl.Net{Nodes: 2}, none) || impl.WeightsOk(kite(), none) {
			t.Fatal("no weights are ones just of no edges")
		}
	}
}

func TestPromise59WeightsAddUp(t *testing.T) {
	draw := rand.New(rand.NewSource(59))
	for _, net := range treeNets() {
		for _, weights := range weightsFor(len(net.Edges), draw) {
			for state := range states(net) {
				got := impl.HeavyOf(net, weights, state)
				mustBe(t, "HeavyOf", net, got, weightOf(net, weights, state))
				if state%8 == 0 {
					mustBe(t, "all weights", net, got+impl.HeavyOf(net, weights, states(net)-1-state), sumOf(weights))
				}
			}
			mustBe(t, "of no edges", net, impl.HeavyOf(net, weights, 0), 0)
		}
	}
}

func TestPromise60NoTreeIsLessHeavyThanTheOneByWeight(t *testing.T) {
	draw := rand.New(rand.NewSource(60))
	for _, net := range treeNets() {
		trees := impl.TreesOf(net)
		for _, weights := range weightsFor(len(net.Edges), draw) {
			if len(trees) == 0 {
				noByWeight(t, net, weights)
				continue
			}
			got, ok := impl.ByWeight(net, weights)
			if !ok || !impl.TreeOk(net, got) {
				t.Fatal("no tree", net, weights, got, ok)
			}
			for _, tree := range trees {
				if impl.HeavyOf(net, weights, tree) < impl.HeavyOf(net, weights, got) {
					t.Fatal("less heavy", net, weights, got, tree)
				}
			}
			isByWeight(t, net, weights, leastTree(net, weights))
		}
	}
}

func TestPromise61ExchangesLeadToTheLeastWeight(t *testing.T) {
	draw := rand.New(rand.NewSource(61))
	for _, net := range treeNets() {
		trees := otherTrees(net)
		for _, weights := range weightsFor(len(net.Edges), draw) {
			if len(trees) == 0 {
				noByExchange(t, net, weights, states(net)-1)
				continue
			}
			least := weightOf(net, weights, leastTree(net, weights))
			byWeight, _ := impl.ByWeight(net, weights)
			mustBe(t, "the tree by weight", net, impl.HeavyOf(net, weights, byWeight), least)
			for _, tree := range fewOf(trees, draw) {
				isByExchange(t, net, weights, tree, least)
			}
			// The least tree itself is one from which no exchange leads on, and the heaviest one leads farthest.
			isByExchange(t, net, weights, byWeight, least)
			isByExchange(t, net, weights, heaviest(net, weights), least)
		}
	}
}

// fewOf returns all of a short list, and some of a longer one, drawn.
func fewOf(list []int, draw *rand.Rand) []int {
	if len(list) <= 5 {
		return list
	}
	var few []int
	for range 5 {
		few = append(few, list[draw.Intn(len(list))])
	}
	return few
}

// heaviest returns the heaviest tree of a net that has one.
func heaviest(net impl.Net, weights []int) int {
	return slices.MaxFunc(otherTrees(net), func(a, b int) int { return weightOf(net, weights, a) - weightOf(net, weights, b) })
}

func TestExchangesFromEachTree(t *testing.T) {
	draw := rand.New(rand.NewSource(62))
	for _, net := range []impl.Net{kite(), fullNet(), threesNet(), prism(), wheel(), ringNet(6), star(6)} {
		for _, weights := range weightsFor(len(net.Edges), draw) {
			least := weightOf(net, weights, leastTree(net, weights))
			for _, tree := range otherTrees(net) {
				isByExchange(t, net, weights, tree, least)
			}
		}
	}
}

// heavyCase is a net with weights, the tree by weight, and its weight.
type heavyCase struct {
	net     impl.Net
	weights []int
	tree    int
	heavy   int
}

func TestWeightExamples(t *testing.T) {
	threes, ring := threesNet(), ringNet(6)
	for _, c := range []heavyCase{
		{kite(), []int{3, 1, 2, 5}, 14, 8},
		{kite(), []int{3, 1, 2, 0}, 14, 3},
		{kite(), []int{1, 2, 3, 99}, 11, 102},
		{kite(), []int{2, 3, 2, 0}, 13, 4},
		{kite(), []int{3, 2, 2, 0}, 14, 4},
		{kite(), []int{2, 2, 3, 0}, 11, 4},
		{kite(), []int{0, 0, 0, 0}, 11, 0},
		{kite(), []int{99, 99, 99, 99}, 11, 297},
		{kite(), []int{99, 98, 99, 99}, 11, 296},
		{kite(), []int{99, 99, 98, 99}, 13, 296},
		{netOf(2, [2]int{1, 2}), []int{42}, 1, 42},
		{netOf(2, [2]int{1, 2}, [2]int{1, 2}, [2]int{1, 2}), []int{5, 4, 4}, 2, 4},
		{netOf(2, [2]int{1, 2}, [2]int{1, 2}, [2]int{1, 2}), []int{4, 4, 4}, 1, 4},
		{netOf(2, [2]int{1, 2}, [2]int{1, 2}, [2]int{1, 2}), []int{9, 5, 0}, 4, 0},
		{ring, []int{1, 2, 3, 4, 5, 6}, 31, 15},
		{ring, []int{6, 5, 4, 3, 2, 1}, 62, 15},
		{ring, []int{1, 9, 1, 9, 1, 1}, 55, 13},
		{star(6), []int{99, 99, 99, 99, 99}, 31, 495},
		{threes, []int{9, 8, 7, 6, 5, 4, 3, 2, 1}, 4 | 32 | 64 | 128 | 256, 17},
		{threes, []int{1, 2, 3, 4, 5, 6, 7, 8, 9}, 1 | 2 | 4 | 8 | 64, 17},
		{threes, []int{0, 0, 0, 0, 0, 0, 0, 0, 0}, 1 | 2 | 4 | 8 | 64, 0},
		{fullNet(), []int{5, 5, 5, 5, 5, 5, 5, 5, 5}, 1 | 2 | 4 | 32 | 64, 25},
	} {
		isByWeight(t, c.net, c.weights, c.tree)
		mustBe(t, "HeavyOf", c.net, impl.HeavyOf(c.net, c.weights, c.tree), c.heavy)
		for _, tree := range impl.TreesOf(c.net) {
			isByExchange(t, c.net, c.weights, tree, c.heavy)
		}
	}
	mustBe(t, "HeavyOf", kite(), impl.HeavyOf(kite(), []int{3, 1, 2, 5}, 11), 9)
	mustBe(t, "HeavyOf", kite(), impl.HeavyOf(kite(), []int{3, 1, 2, 5}, 15), 11)
	mustBe(t, "HeavyOf", fullNet(), impl.HeavyOf(fullNet(), slices.Repeat([]int{99}, 9), 511), 891)
}

func TestEqualWeightsAreTakenInTheOrderOfTheEdges(t *testing.T) {
	// All nets of two nodes have each edge for a tree, so the first of the least weight is taken.
	draw := rand.New(rand.NewSource(63))
	for many := 1; many <= impl.MaxEdges; many++ {
		net := impl.Net{Nodes: 2, Edges: slices.Repeat(edges([2]int{1, 2}), many)}
		for _, weights := range weightsFor(many, draw) {
			isByWeight(t, net, weights, 1<<slices.Index(weights, slices.Min(weights)))
		}
	}
	for _, net := range treeNets() {
		trees := otherTrees(net)
		if len(trees) == 0 {
			continue
		}
		for _, weight := range []int{0, 1, 50, 99} {
			equal := slices.Repeat([]int{weight}, len(net.Edges))
			isByWeight(t, net, equal, trees[0])
			isByExchange(t, net, equal, trees[len(trees)-1], weight*(net.Nodes-1))
		}
	}
}

func TestWrongWeights(t *testing.T) {
	for _, net := range treeNets() {
		tree := max(0, lastTree(net))
		many := len(net.Edges)
		for _, count := range []int{0, many - 1, many + 1, many + 2, 9, 10, 100} {
			if count == many || count < 0 {
				continue
			}
			noWeights(t, net, make([]int, count), tree)
			noWeights(t, net, slices.Repeat([]int{-1}, count), tree)
		}
		if many > 0 {
			noWeights(t, net, nil, tree)
		}
		for at := range many {
			weights := slices.Repeat([]int{5}, many)
			for _, wrong := range []int{-1, 100, -2, 101, -99, 1000, 1 << 32, -1 << 32, math.MinInt, math.MinInt + 1, math.MaxInt, math.MaxInt - 1} {
				weights[at] = wrong
				noWeights(t, net, weights, tree)
			}
			for _, good := range []int{0, 99} {
				weights[at] = good
				if !impl.WeightsOk(net, weights) {
					t.Fatal("no weights", net, weights)
				}
			}
		}
	}
}

func TestWrongStatesHaveNoWeight(t *testing.T) {
	for _, net := range treeNets() {
		weights := slices.Repeat([]int{3}, len(net.Edges))
		for _, state := range append(wrongNumbers(0, states(net)), states(net)|1, math.MinInt|1, 1<<62|1) {
			mustBe(t, "HeavyOf", net, impl.HeavyOf(net, weights, state), -1)
			noByExchange(t, net, weights, state)
		}
	}
}

func TestNoExchangesFromWhatIsNoTree(t *testing.T) {
	for _, net := range treeNets() {
		weights := slices.Repeat([]int{3}, len(net.Edges))
		trees := otherTrees(net)
		for state := range states(net) {
			if !slices.Contains(trees, state) {
				noByExchange(t, net, weights, state)
			}
		}
		for _, tree := range trees {
			noByExchange(t, net, weights, tree|states(net))
			noByExchange(t, net, weights, tree-states(net))
		}
	}
}

func TestInvalidNetsHaveNoWeights(t *testing.T) {
	for _, net := range invalidNets() {
		for _, weights := range [][]int{make([]int, len(net.Edges)), slices.Repeat([]int{99}, len(net.Edges)), nil, {}, {1}, {1, 2}, {1, 2, 3}} {
			for _, state := range []int{0, 1, 3, 7, 511, 512, -1} {
				noWeights(t, net, weights, state)
			}
		}
	}
}

// tellWeights returns all that is told of a net with weights, and of a state.
func tellWeights(net impl.Net, weights []int, state int) []int {
	byWeight, found := impl.ByWeight(net, weights)
	byExchange, led := impl.ByExchange(net, weights, state)
	row := []int{impl.HeavyOf(net, weights, state), byWeight, byExchange}
	for _, ok := range []bool{impl.WeightsOk(net, weights), found, led} {
		row = append(row, map[bool]int{true: 1}[ok])
	}
	return row
}

func TestWeightsLeaveNetsAndWeightsAsTheyAre(t *testing.T) {
	draw := rand.New(rand.NewSource(64))
	for _, net := range append(treeNets(), invalidNets()...) {
		rows := weightsFor(len(net.Edges), draw)
		for _, weights := range append(rows, []int{-1, 100}, slices.Repeat([]int{100}, len(net.Edges))) {
			lentTo, memoryNet := lentNet(net)
			lentWeights, memory := lentRow(weights)
			beforeNet, before := slices.Clone(memoryNet), slices.Clone(memory)
			tellWeights(lentTo, lentWeights, lastTree(net))
			if !slices.Equal(memoryNet, beforeNet) || !slices.Equal(memory, before) {
				t.Fatal("written to", net, weights, memory)
			}
		}
	}
}

func TestWeightsKeepNoState(t *testing.T) {
	keepsNoState(t, func(net impl.Net, at int) [][]int {
		var weights []int
		for place := range net.Edges {
			weights = append(weights, (at*7+place*31)%101)
		}
		last := lastTree(net)
		return [][]int{tellWeights(net, weights, last), tellWeights(net, make([]int, len(net.Edges)), last)}
	})
}
