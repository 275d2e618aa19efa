// Package tests holds the project's tests of package impl, by promises and by the general rules.
package tests

import (
	"math"
	"math/rand"
	"slices"
	"testing"

	"loop.example/failingnets/impl"
)

// edges makes edges of rows of two nodes each.
func edges(rows ...[2]int) []impl.Edge {
	var list []impl.Edge
	for _, row := range rows {
		list = append(list, impl.Edge{A: row[0], B: row[1]})
	}
	return list
}

// netOf makes a net of so many nodes with edges of rows of two nodes each.
func netOf(nodes int, rows ...[2]int) impl.Net {
	return impl.Net{Nodes: nodes, Edges: edges(rows...)}
}

// sameNet reports whether two nets are the same, nil and empty slices being the same.
func sameNet(a, b impl.Net) bool {
	return a.Nodes == b.Nodes && slices.Equal(a.Edges, b.Edges)
}

// copyOf returns a net with edges of its own.
func copyOf(net impl.Net) impl.Net {
	return impl.Net{Nodes: net.Nodes, Edges: slices.Clone(net.Edges)}
}

// allPairs returns all edges that a net of so many nodes may have.
func allPairs(nodes int) []impl.Edge {
	var list []impl.Edge
	for a := 1; a < nodes; a++ {
		for b := a + 1; b <= nodes; b++ {
			list = append(list, impl.Edge{A: a, B: b})
		}
	}
	return list
}

// threesNet is the net in which each of the nodes 1 to 3 has an edge to each of the nodes 4 to 6.
func threesNet() impl.Net {
	net := impl.Net{Nodes: impl.MaxNodes}
	for a := 1; a <= 3; a++ {
		for b := 4; b <= 6; b++ {
			net.Edges = append(net.Edges, impl.Edge{A: a, B: b})
		}
	}
	return net
}

// withEdges appends all nets of so many nodes that have at most so many edges, equal ones among them.
func withEdges(list []impl.Net, nodes, most int) []impl.Net {
	pairs := allPairs(nodes)
	last := []impl.Net{{Nodes: nodes}}
	list = append(list, last...)
	for range most {
		var next []impl.Net
		for _, net := range last {
			for _, pair := range pairs {
				next = append(next, impl.Net{Nodes: nodes, Edges: append(slices.Clone(net.Edges), pair)})
			}
		}
		list = append(list, next...)
		last = next
	}
	return list
}

// validNets returns small nets of all kinds, and greater ones drawn from a fixed beginning, those with the most nodes and edges among them.
func validNets() []impl.Net {
	var list []impl.Net
	list = withEdges(list, 2, impl.MaxEdges)
	list = withEdges(list, 3, 4)
	list = withEdges(list, 4, 3)
	list = withEdges(list, 5, 2)
	list = withEdges(list, 6, 2)
	draw := rand.New(rand.NewSource(1))
	for i := range 300 {
		net := impl.Net{Nodes: 2 + draw.Intn(impl.MaxNodes-1)}
		count := draw.Intn(impl.MaxEdges + 1)
		if i%3 == 0 {
			net.Nodes, count = impl.MaxNodes, impl.MaxEdges
		}
		pairs := allPairs(net.Nodes)
		for range count {
			net.Edges = append(net.Edges, pairs[draw.Intn(len(pairs))])
		}
		list = append(list, net)
	}
	return list
}

// invalidNets returns nets with too few or too many nodes or edges, and with an edge that is none, in each place.
func invalidNets() []impl.Net {
	var list []impl.Net
	for _, nodes := range []int{math.MinInt, math.MinInt + 1, -6, -2, -1, 0, 1, impl.MaxNodes + 1, 100, math.MaxInt - 1, math.MaxInt} {
		list = append(list, impl.Net{Nodes: nodes}, netOf(nodes, [2]int{1, 2}), netOf(nodes, [2]int{1, 2}, [2]int{1, 2}))
	}
	for _, many := range []int{impl.MaxEdges + 1, impl.MaxEdges + 2, 62, 63, 64, 65, 1000} {
		list = append(list, impl.Net{Nodes: 3, Edges: slices.Repeat(edges([2]int{1, 2}), many)})
	}
	for _, bad := range badEdges() {
		for at := range 3 {
			net := netOf(4, [2]int{1, 2}, [2]int{2, 3}, [2]int{3, 4})
			net.Edges[at] = bad
			list = append(list, net)
		}
		list = append(list, impl.Net{Nodes: 4, Edges: []impl.Edge{bad}})
		full := impl.Net{Nodes: 4, Edges: slices.Repeat(edges([2]int{1, 2}), impl.MaxEdges)}
		full.Edges[impl.MaxEdges-1] = bad
		list = append(list, full)
	}
	return append(list, netOf(2, [2]int{2, 3}), netOf(3, [2]int{1, 4}), netOf(5, [2]int{5, 6}), netOf(6, [2]int{6, 7}))
}

// badEdges returns what is no edge in a net of 4 nodes.
func badEdges() []impl.Edge {
	return edges([2]int{0, 0}, [2]int{1, 1}, [2]int{4, 4}, [2]int{2, 1}, [2]int{4, 3}, [2]int{4, 1},
		[2]int{0, 1}, [2]int{-1, 1}, [2]int{-1, 4}, [2]int{1, 5}, [2]int{4, 5}, [2]int{5, 6}, [2]int{-2, -1}, [2]int{1, 0}, [2]int{1, -1},
		[2]int{math.MinInt, 1}, [2]int{1, math.MinInt}, [2]int{1, math.MaxInt}, [2]int{math.MaxInt, 1},
		[2]int{math.MinInt, math.MaxInt}, [2]int{math.MaxInt - 1, math.MaxInt}, [2]int{math.MinInt, math.MinInt + 1})
}

// wrongNumbers returns numbers that are too small for, or not less than, a number of things counted from a first one on.
func wrongNumbers(first, end int) []int {
	return []int{math.MinInt, math.MinInt + 1, -1 << 32, first - 100, first - 2, first - 1, end, end + 1, end + 100, 1 << 32, math.MaxInt - 1, math.MaxInt}
}

// lentNet returns a net whose edges lie in longer memory, with marked edges behind them, and that memory.
func lentNet(net impl.Net) (impl.Net, []impl.Edge) {
	memory := slices.Clone(net.Edges)
	memory = append(memory, slices.Repeat(edges([2]int{1, 2}), 3)...)
	return impl.Net{Nodes: net.Nodes, Edges: memory[:len(net.Edges)]}, memory
}

// overwrite writes to all memory that a net has, spare capacity included.
func overwrite(net impl.Net) {
	all := net.Edges[:cap(net.Edges)]
	for i := range all {
		all[i] = impl.Edge{A: -77, B: -78}
	}
}

// mustBe fails a test if a number is not the wanted one.
func mustBe(t *testing.T, what string, net impl.Net, got, want int) {
	t.Helper()
	if got != want {
		t.Fatalf("%s of %v: %d, not %d", what, net, got, want)
	}
}

// mustBeRow fails a test if a row is not the wanted one, nil and empty rows being the same.
func mustBeRow(t *testing.T, what string, about any, got, want []int) {
	t.Helper()
	if !slices.Equal(got, want) {
		t.Fatalf("%s of %v: %v, not %v", what, about, got, want)
	}
}

// mustBeNumber fails a test if a number is not the wanted one.
func mustBeNumber(t *testing.T, what string, about any, got, want int) {
	t.Helper()
	if got != want {
		t.Fatalf("%s of %v: %d, not %d", what, about, got, want)
	}
}

// nodePairs returns each two different nodes of a net, both ways.
func nodePairs(net impl.Net) [][2]int {
	var list [][2]int
	for _, edge := range allPairs(net.Nodes) {
		list = append(list, [2]int{edge.A, edge.B}, [2]int{edge.B, edge.A})
	}
	return list
}

// copyOfRows returns rows with memory of their own.
func copyOfRows(rows [][]int) [][]int {
	var list [][]int
	for _, row := range rows {
		list = append(list, slices.Clone(row))
	}
	return list
}

// overwriteRow writes to all memory that a row has, spare capacity included.
func overwriteRow(row []int) {
	all := row[:cap(row)]
	for i := range all {
		all[i] = -77
	}
}

// leavesNetsAsTheyAre fails a test if telling rows of a net writes to the net, or if a row shares memory with the net or with another row.
func leavesNetsAsTheyAre(t *testing.T, tell func(net impl.Net) [][]int) {
	t.Helper()
	for _, net := range append(validNets(), invalidNets()...) {
		lent, memory := lentNet(net)
		before := slices.Clone(memory)
		first, second := tell(lent), tell(lent)
		want := copyOfRows(second)
		for _, row := range first {
			overwriteRow(row)
		}
		if !slices.Equal(memory, before) {
			t.Fatal("written to", net)
		}
		for i, row := range second {
			mustBeRow(t, "another result", []any{net, i}, row, want[i])
		}
		for i, row := range tell(lent) {
			mustBeRow(t, "a later result", []any{net, i}, row, want[i])
		}
	}
}

// keepsNoState fails a test if rows told of nets, by their places, are others when they are told once more, the other way round.
func keepsNoState(t *testing.T, tell func(net impl.Net, at int) [][]int) {
	t.Helper()
	nets := append(validNets(), invalidNets()...)
	var first [][][]int
	for at, net := range nets {
		first = append(first, tell(net, at))
	}
	for at, net := range slices.Backward(nets) {
		for i, row := range tell(net, at) {
			mustBeRow(t, "told otherwise", []any{net, i}, row, first[at][i])
		}
	}
}
