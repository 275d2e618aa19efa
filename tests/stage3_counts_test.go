package tests

import (
	"math"
	"math/rand"
	"slices"
	"testing"

	"loop.example/failingnets/impl"
)

// rowsOf are the counts of a net: for each two nodes, by their numbers, of whole states, and of states without a ring.
type rowsOf struct {
	joining [impl.MaxNodes + 1][impl.MaxNodes + 1][]int
	whole   []int
	forest  []int
}

// otherRows counts in another way: all at once, by ways instead of pieces.
func otherRows(net impl.Net) rowsOf {
	empty := func() []int { return make([]int, len(net.Edges)+1) }
	rows := rowsOf{whole: empty(), forest: empty()}
	for _, pair := range nodePairs(net) {
		rows.joining[pair[0]][pair[1]] = empty()
	}
	for state := range states(net) {
		there := len(present(net, state))
		w := waysIn(net, state)
		for _, pair := range nodePairs(net) {
			if w[pair[0]][pair[1]] {
				rows.joining[pair[0]][pair[1]][there]++
			}
		}
		pieces := w.pieces(net.Nodes)
		if pieces == 1 {
			rows.whole[there]++
		}
		if pieces == net.Nodes-there {
			rows.forest[there]++
		}
	}
	return rows
}

// choices counts the ways to choose so many of at most 10 things one by one.
func choices(n, k int) int {
	count := 0
	for set := range 1 << n {
		chosen := 0
		for at := range n {
			chosen += set >> at % 2
		}
		if chosen == k {
			count++
		}
	}
	return count
}

// choiceRow returns in how many ways each number of so many things may be chosen.
func choiceRow(n int) []int {
	var row []int
	for k := 0; k <= n; k++ {
		row = append(row, impl.ChoicesOf(n, k))
	}
	return row
}

// addRows returns the sum of a row and another one, one number later.
func addRows(row, later []int) []int {
	sum := append(slices.Clone(row), 0)
	for i, n := range later {
		sum[i+1] += n
	}
	return sum
}

// sumOf returns the sum of a row.
func sumOf(row []int) int {
	sum := 0
	for _, n := range row {
		sum += n
	}
	return sum
}

func TestRowsAreThoseOfAllStates(t *testing.T) {
	for _, net := range validNets() {
		want := otherRows(net)
		for _, pair := range nodePairs(net) {
			mustBeRow(t, "JoiningCounts", []any{net, pair}, impl.JoiningCounts(net, pair[0], pair[1]), want.joining[pair[0]][pair[1]])
		}
		mustBeRow(t, "WholeCounts", net, impl.WholeCounts(net), want.whole)
		mustBeRow(t, "ForestCounts", net, impl.ForestCounts(net), want.forest)
	}
}

func TestPromise12StatesThatWorkGoOnWorking(t *testing.T) {
	for _, net := range validNets() {
		many := len(net.Edges)
		for _, pair := range nodePairs(net) {
			row := impl.JoiningCounts(net, pair[0], pair[1])
			mustBeRow(t, "both exchanged", []any{net, pair}, impl.JoiningCounts(net, pair[1], pair[0]), row)
			if len(row) != many+1 {
				t.Fatal("numbers", net, pair, row)
			}
			for there, count := range row {
				if count < 0 || count > impl.ChoicesOf(many, there) {
					t.Fatal("more than all states", net, pair, row)
				}
				if there < many && count*(many-there) > row[there+1]*(there+1) {
					t.Fatal("the part becomes less", net, pair, row)
				}
			}
		}
	}
}

func TestPromise13AnEdgeIsThereOrNot(t *testing.T) {
	for _, net := range validNets() {
		if net.Nodes < 3 {
			continue
		}
		for at, edge := range net.Edges {
			without, _ := impl.WithoutEdge(net, at)
			made, left, _ := impl.MadeOne(net, at)
			anyway := choiceRow(left)
			mustBeRow(t, "WholeCounts", []any{net, at}, impl.WholeCounts(net),
				addRows(impl.WholeCounts(without), impl.BothOf(impl.WholeCounts(made), anyway)))
			// With the ends of the edge itself for nodes, all states with the edge join them.
			mustBeRow(t, "JoiningCounts", []any{net, at}, impl.JoiningCounts(net, edge.A, edge.B),
				addRows(impl.JoiningCounts(without, edge.A, edge.B), choiceRow(len(net.Edges)-1)))
			joinedThereOrNot(t, net, at)
		}
	}
}

// joinedThereOrNot fails a test unless the counts of the first node and each other one are put together from the states with an edge and those without it.
func joinedThereOrNot(t *testing.T, net impl.Net, at int) {
	t.Helper()
	edge := net.Edges[at]
	without, _ := impl.WithoutEdge(net, at)
	made, left, _ := impl.MadeOne(net, at)
	for node := 2; node <= net.Nodes; node++ {
		later := node
		switch {
		case node == edge.B:
			later = edge.A
		case node > edge.B:
			later--
		}
		if later == 1 {
			continue
		}
		mustBeRow(t, "JoiningCounts", []any{net, at, node}, impl.JoiningCounts(net, 1, node),
			addRows(impl.JoiningCounts(without, 1, node), impl.BothOf(impl.JoiningCounts(made, 1, later), choiceRow(left))))
	}
}

func TestPromise14WithoutRingsThereAreFew(t *testing.T) {
	for _, net := range validNets() {
		forest, whole := impl.ForestCounts(net), impl.WholeCounts(net)
		if len(forest) != len(net.Edges)+1 || len(whole) != len(net.Edges)+1 {
			t.Fatal("numbers", net, forest, whole)
		}
		mustBe(t, "without edges", net, forest[0], 1)
		if len(net.Edges) > 0 {
			mustBe(t, "of one edge", net, forest[1], len(net.Edges))
		}
		for there, count := range forest {
			if there >= net.Nodes {
				mustBe(t, "as many edges as nodes", net, count, 0)
			}
			if there == net.Nodes-1 {
				mustBe(t, "one less edges than nodes", net, count, whole[there])
			}
			if there < net.Nodes-1 {
				mustBe(t, "whole with too few edges", net, whole[there], 0)
			}
		}
	}
}

// rowCase is what chapter 3 tells of a net, and of two of its nodes.
type rowCase struct {
	net    impl.Net
	a      int
	b      int
	joined []int
	whole  []int
	forest []int
}

// check fails a test unless all is told of a net as its case has it.
func (c rowCase) check(t *testing.T) {
	t.Helper()
	mustBeRow(t, "JoiningCounts", c, impl.JoiningCounts(c.net, c.a, c.b), c.joined)
	mustBeRow(t, "JoiningCounts", c, impl.JoiningCounts(c.net, c.b, c.a), c.joined)
	mustBeRow(t, "WholeCounts", c, impl.WholeCounts(c.net), c.whole)
	mustBeRow(t, "ForestCounts", c, impl.ForestCounts(c.net), c.forest)
}

func TestRowExamples(t *testing.T) {
	all4 := impl.Net{Nodes: 4, Edges: allPairs(4)}
	ring := netOf(6, [2]int{1, 2}, [2]int{2, 3}, [2]int{3, 4}, [2]int{4, 5}, [2]int{5, 6}, [2]int{1, 6})
	two := netOf(6, [2]int{1, 5}, [2]int{3, 5}, [2]int{1, 3}, [2]int{2, 6}, [2]int{2, 4}, [2]int{4, 6})
	none := []int{0, 0, 0, 0, 0, 0, 0}
	for _, c := range []rowCase{
		{kite(), 1, 4, []int{0, 0, 1, 3, 1}, []int{0, 0, 0, 3, 1}, []int{1, 4, 6, 3, 0}},
		{kite(), 1, 3, []int{0, 1, 4, 4, 1}, []int{0, 0, 0, 3, 1}, []int{1, 4, 6, 3, 0}},
		{kite(), 3, 4, []int{0, 1, 3, 3, 1}, []int{0, 0, 0, 3, 1}, []int{1, 4, 6, 3, 0}},
		{all4, 1, 2, []int{0, 1, 7, 18, 15, 6, 1}, []int{0, 0, 0, 16, 15, 6, 1}, []int{1, 6, 15, 16, 0, 0, 0}},
		{ring, 1, 4, []int{0, 0, 0, 2, 6, 6, 1}, []int{0, 0, 0, 0, 0, 6, 1}, []int{1, 6, 15, 20, 15, 6, 0}},
		{ring, 6, 1, []int{0, 1, 5, 10, 10, 6, 1}, []int{0, 0, 0, 0, 0, 6, 1}, []int{1, 6, 15, 20, 15, 6, 0}},
		{two, 1, 3, []int{0, 1, 6, 13, 13, 6, 1}, none, []int{1, 6, 15, 18, 9, 0, 0}},
		{two, 1, 2, none, none, []int{1, 6, 15, 18, 9, 0, 0}},
		{netOf(3, [2]int{1, 2}), 1, 2, []int{0, 1}, []int{0, 0}, []int{1, 1}},
		{netOf(3, [2]int{1, 2}), 2, 3, []int{0, 0}, []int{0, 0}, []int{1, 1}},
	} {
		c.check(t)
	}
}

func TestRowsOfTheGreatestNets(t *testing.T) {
	// There are 81 trees, and 328 states without a ring.
	threes := threesNet()
	whole, forest := impl.WholeCounts(threes), impl.ForestCounts(threes)
	mustBeRow(t, "WholeCounts", threes, whole, []int{0, 0, 0, 0, 0, 81, 78, 36, 9, 1})
	mustBeRow(t, "ForestCounts", threes, forest, []int{1, 9, 36, 84, 117, 81, 0, 0, 0, 0})
	mustBe(t, "all without a ring", threes, sumOf(forest), 328)
	mustBeRow(t, "JoiningCounts", threes, impl.JoiningCounts(threes, 1, 4)[:4], []int{0, 1, 8, 32})
	mustBeRow(t, "JoiningCounts", threes, impl.JoiningCounts(threes, 1, 2)[:4], []int{0, 0, 3, 21})
	for _, pair := range nodePairs(fullNet()) {
		row := impl.JoiningCounts(fullNet(), pair[0], pair[1])
		mustBe(t, "all edges there", fullNet(), row[impl.MaxEdges], 1)
		mustBe(t, "no edges there", fullNet(), row[0], 0)
	}
}

func TestRowsOfNetsWithoutEdges(t *testing.T) {
	for nodes := 2; nodes <= impl.MaxNodes; nodes++ {
		for _, none := range [][]impl.Edge{nil, {}} {
			net := impl.Net{Nodes: nodes, Edges: none}
			for _, pair := range nodePairs(net) {
				rowCase{net, pair[0], pair[1], []int{0}, []int{0}, []int{1}}.check(t)
			}
		}
	}
}

func TestRowsOfTwoNodes(t *testing.T) {
	for many := 1; many <= impl.MaxEdges; many++ {
		net := impl.Net{Nodes: 2, Edges: slices.Repeat(edges([2]int{1, 2}), many)}
		works, forest := make([]int, many+1), make([]int, many+1)
		for there := 1; there <= many; there++ {
			works[there] = choices(many, there)
		}
		forest[0], forest[1] = 1, many
		rowCase{net, 1, 2, works, works, forest}.check(t)
	}
}

func TestRowsOfEdgesWithTheSameEnds(t *testing.T) {
	works := []int{0, 9, 36, 84, 126, 126, 84, 36, 9, 1}
	never := make([]int, 10)
	forest := []int{1, 9, 0, 0, 0, 0, 0, 0, 0, 0}
	for nodes := 3; nodes <= impl.MaxNodes; nodes++ {
		for _, edge := range allPairs(nodes) {
			net := impl.Net{Nodes: nodes, Edges: slices.Repeat([]impl.Edge{edge}, impl.MaxEdges)}
			for _, pair := range nodePairs(net) {
				joined := never
				if min(pair[0], pair[1]) == edge.A && max(pair[0], pair[1]) == edge.B {
					joined = works
				}
				rowCase{net, pair[0], pair[1], joined, never, forest}.check(t)
			}
		}
	}
}

func TestNetsThatAreNeverWhole(t *testing.T) {
	found := 0
	for _, net := range validNets() {
		pieces := waysIn(net, states(net)-1)
		if pieces.pieces(net.Nodes) == 1 {
			continue
		}
		found++
		never := make([]int, len(net.Edges)+1)
		mustBeRow(t, "WholeCounts", net, impl.WholeCounts(net), never)
		for _, pair := range nodePairs(net) {
			if !pieces[pair[0]][pair[1]] {
				mustBeRow(t, "JoiningCounts", []any{net, pair}, impl.JoiningCounts(net, pair[0], pair[1]), never)
			}
		}
	}
	if found < 100 {
		t.Fatal("too few nets that are never whole", found)
	}
}

func TestWrongNodesHaveNoRow(t *testing.T) {
	for _, net := range validNets() {
		for node := 1; node <= net.Nodes; node++ {
			mustBeRow(t, "one node twice", net, impl.JoiningCounts(net, node, node), nil)
			for _, wrong := range wrongNumbers(1, net.Nodes+1) {
				mustBeRow(t, "no node", []any{net, wrong}, impl.JoiningCounts(net, node, wrong), nil)
				mustBeRow(t, "no node", []any{net, wrong}, impl.JoiningCounts(net, wrong, node), nil)
				mustBeRow(t, "no node twice", []any{net, wrong}, impl.JoiningCounts(net, wrong, wrong), nil)
			}
		}
		mustBeRow(t, "no nodes", net, impl.JoiningCounts(net, 0, net.Nodes+1), nil)
	}
}

func TestInvalidNetsHaveNoRows(t *testing.T) {
	for _, net := range invalidNets() {
		mustBeRow(t, "WholeCounts", net, impl.WholeCounts(net), nil)
		mustBeRow(t, "ForestCounts", net, impl.ForestCounts(net), nil)
		for _, pair := range [][2]int{{1, 2}, {2, 1}, {1, 1}, {1, net.Nodes}, {net.Nodes, 1}, {0, 1}, {math.MinInt, math.MaxInt}} {
			mustBeRow(t, "JoiningCounts", []any{net, pair}, impl.JoiningCounts(net, pair[0], pair[1]), nil)
		}
	}
}

// isChoices fails a test if there are not so many choices.
func isChoices(t *testing.T, n, k, want int) {
	t.Helper()
	if got := impl.ChoicesOf(n, k); got != want {
		t.Fatalf("%d of %d: %d, not %d", k, n, got, want)
	}
}

func TestPromise15ChoicesAddUp(t *testing.T) {
	all := 1
	for n := 0; n <= 20; n++ {
		sum := 0
		for k := 0; k <= n+3; k++ {
			got := impl.ChoicesOf(n, k)
			sum += got
			if n < 20 {
				isChoices(t, n+1, k+1, got+impl.ChoicesOf(n, k+1))
			}
			if k <= n {
				isChoices(t, n, n-k, got)
			}
		}
		if sum != all {
			t.Fatal("all choices", n, sum, all)
		}
		all *= 2
	}
}

func TestChoicesOneByOne(t *testing.T) {
	for n := 0; n <= 10; n++ {
		for k := 0; k <= 12; k++ {
			isChoices(t, n, k, choices(n, k))
		}
	}
	for k, want := range []int{1, 20, 190, 1140, 4845, 15504, 38760, 77520, 125970, 167960, 184756} {
		isChoices(t, 20, k, want)
		isChoices(t, 20, 20-k, want)
	}
	for n := 0; n <= 20; n++ {
		isChoices(t, n, 0, 1)
		isChoices(t, n, n, 1)
		if n > 0 {
			isChoices(t, n, 1, n)
			isChoices(t, n, n-1, n)
		}
	}
}

func TestChoicesOfMoreThanAllAndOfWrongNumbers(t *testing.T) {
	for n := 0; n <= 20; n++ {
		for _, more := range []int{n + 1, n + 2, n + 21, 63, 64, 65, 1 << 32, math.MaxInt - 1, math.MaxInt} {
			isChoices(t, n, more, 0)
		}
		for _, fewer := range []int{-1, -2, -n - 1, -20, -21, -64, -1 << 32, math.MinInt + 1, math.MinInt} {
			isChoices(t, n, fewer, -1)
		}
	}
	for _, n := range wrongNumbers(0, 21) {
		for _, k := range []int{math.MinInt, -1, 0, 1, 2, 20, 21, 22, n, math.MaxInt} {
			isChoices(t, n, k, -1)
		}
	}
}

// drawnRow returns a row of so many numbers up to a greatest one, less than 0 among them.
func drawnRow(draw *rand.Rand, many, greatest int) []int {
	var row []int
	for range many {
		row = append(row, draw.Intn(2*greatest+1)-greatest)
	}
	return row
}

// drawnRows returns rows of all lengths that may be, and rows of the greatest and least numbers.
func drawnRows() [][]int {
	draw := rand.New(rand.NewSource(3))
	var list [][]int
	for many := 1; many <= 30; many++ {
		list = append(list, drawnRow(draw, many, 9), drawnRow(draw, many, 1<<20), make([]int, many))
	}
	return append(list, []int{1}, []int{0}, []int{-1}, []int{0, 1}, []int{1, 0, 0},
		[]int{math.MaxInt}, []int{math.MinInt}, []int{math.MaxInt, math.MinInt, -1, 2},
		slices.Repeat([]int{math.MaxInt}, 30), slices.Repeat([]int{math.MinInt + 1, math.MaxInt - 1}, 15))
}

// otherBoth puts two rows together in another way: for each number over all that lead to it.
func otherBoth(a, b []int) []int {
	var row []int
	for number := 0; number <= len(a)+len(b)-2; number++ {
		sum := 0
		for i := 0; i <= number; i++ {
			if i < len(a) && number-i < len(b) {
				sum += a[i] * b[number-i]
			}
		}
		row = append(row, sum)
	}
	return row
}

func TestPromise16SumsAreMultiplied(t *testing.T) {
	rows := drawnRows()
	for _, a := range rows {
		mustBeRow(t, "with the row of 1", a, impl.BothOf(a, []int{1}), a)
		mustBeRow(t, "the row of 1 with", a, impl.BothOf([]int{1}, a), a)
		mustBeRow(t, "one number later", a, impl.BothOf(a, []int{0, 1}), append([]int{0}, a...))
		for _, b := range rows {
			got := impl.BothOf(a, b)
			mustBeRow(t, "BothOf", [][]int{a, b}, got, otherBoth(a, b))
			mustBeRow(t, "both exchanged", [][]int{a, b}, impl.BothOf(b, a), got)
			// Numbers too great wrap around, in the sums and in the product alike.
			if sumOf(got) != sumOf(a)*sumOf(b) {
				t.Fatal("all counts", a, b, got)
			}
		}
	}
}

func TestBothExamples(t *testing.T) {
	ones := slices.Repeat([]int{1}, 30)
	for _, c := range [][3][]int{
		{{1, 2}, {1, 1}, {1, 3, 2}},
		{{5}, {-7}, {-35}},
		{{0}, {1, 2, 3}, {0, 0, 0}},
		{{1, -1}, {1, 1}, {1, 0, -1}},
		{{0, 0, 2}, {0, 3}, {0, 0, 0, 6}},
		{{1, 3, 3, 1}, {1, 2, 1}, {1, 5, 10, 10, 5, 1}},
		{{math.MaxInt}, {1}, {math.MaxInt}},
		{{math.MinInt, math.MaxInt}, {1, 1}, {math.MinInt, -1, math.MaxInt}},
	} {
		mustBeRow(t, "BothOf", c[:2], impl.BothOf(c[0], c[1]), c[2])
	}
	got := impl.BothOf(ones, ones)
	if len(got) != 59 || got[0] != 1 || got[28] != 29 || got[29] != 30 || got[30] != 29 || got[58] != 1 {
		t.Fatal("rows of 30 numbers", got)
	}
}

func TestWrongRowsAreNotPutTogether(t *testing.T) {
	wrong := [][]int{nil, {}, make([]int, 0, 40)}
	for _, many := range []int{31, 32, 59, 60, 1000} {
		wrong = append(wrong, make([]int, many), slices.Repeat([]int{1}, many), slices.Repeat([]int{math.MinInt, math.MaxInt}, many))
	}
	for _, row := range append(drawnRows(), wrong...) {
		for _, none := range wrong {
			mustBeRow(t, "a wrong row", [][]int{row, none}, impl.BothOf(row, none), nil)
			mustBeRow(t, "a wrong row", [][]int{none, row}, impl.BothOf(none, row), nil)
		}
	}
}

// tellRows returns all rows that chapter 3 tells of a net and two nodes.
func tellRows(net impl.Net, a, b int) [][]int {
	return [][]int{impl.JoiningCounts(net, a, b), impl.WholeCounts(net), impl.ForestCounts(net)}
}

func TestRowsLeaveNetsAsTheyAreAndShareNoMemory(t *testing.T) {
	leavesNetsAsTheyAre(t, func(net impl.Net) [][]int { return tellRows(net, 1, 2) })
}

// lentRow returns a row that lies in longer memory, with marked numbers behind it, and that memory.
func lentRow(row []int) ([]int, []int) {
	memory := append(slices.Clone(row), 71, 72, 73)
	return memory[:len(row)], memory
}

func TestBothLeavesRowsAsTheyAreAndSharesNoMemory(t *testing.T) {
	rows := append(drawnRows(), nil, make([]int, 31))
	for _, one := range rows {
		for _, other := range rows {
			a, memoryA := lentRow(one)
			b, memoryB := lentRow(other)
			beforeA, beforeB := slices.Clone(memoryA), slices.Clone(memoryB)
			first, second := impl.BothOf(a, b), impl.BothOf(a, b)
			want := slices.Clone(second)
			overwriteRow(first)
			if !slices.Equal(memoryA, beforeA) || !slices.Equal(memoryB, beforeB) {
				t.Fatal("written to", one, other)
			}
			overwriteRow(memoryA)
			overwriteRow(memoryB)
			mustBeRow(t, "another result", [][]int{one, other}, second, want)
		}
	}
}

func TestARowWithItself(t *testing.T) {
	for _, row := range drawnRows() {
		lent, memory := lentRow(row)
		before := slices.Clone(memory)
		mustBeRow(t, "a row with itself", row, impl.BothOf(lent, lent), otherBoth(row, row))
		if !slices.Equal(memory, before) {
			t.Fatal("written to", row)
		}
	}
}

func TestRowsKeepNoState(t *testing.T) {
	keepsNoState(t, func(net impl.Net, at int) [][]int {
		n := at%25 - 2
		return append(tellRows(net, 2, 1), []int{impl.ChoicesOf(n, at%7-1)}, impl.BothOf(impl.WholeCounts(net), []int{n, at}))
	})
}
