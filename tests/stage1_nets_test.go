package tests

import (
	"math"
	"slices"
	"testing"

	"loop.example/failingnets/impl"
)

// kite is the net of the document's example.
func kite() impl.Net {
	return netOf(4, [2]int{1, 2}, [2]int{2, 3}, [2]int{1, 3}, [2]int{3, 4})
}

// fullNet is a net with the most nodes and the most edges, each kind of place for an edge among them.
func fullNet() impl.Net {
	return netOf(6, [2]int{1, 2}, [2]int{5, 6}, [2]int{1, 6}, [2]int{2, 5}, [2]int{2, 5}, [2]int{3, 4}, [2]int{4, 6}, [2]int{3, 5}, [2]int{2, 6})
}

func TestConstantsOfNets(t *testing.T) {
	if impl.MaxNodes != 6 || impl.MaxEdges != 9 {
		t.Fatal(impl.MaxNodes, impl.MaxEdges)
	}
}

func TestPromise1NetsMayBeWithoutEdges(t *testing.T) {
	for nodes := 2; nodes <= impl.MaxNodes; nodes++ {
		if !impl.NetOk(impl.Net{Nodes: nodes}) || !impl.NetOk(impl.Net{Nodes: nodes, Edges: []impl.Edge{}}) {
			t.Fatal("no edges", nodes)
		}
	}
	for _, net := range validNets() {
		if !impl.NetOk(net) {
			t.Fatal("no net", net)
		}
		if len(net.Edges) == 0 {
			continue
		}
		if !impl.NetOk(impl.Net{Nodes: net.Nodes, Edges: net.Edges[:len(net.Edges)-1]}) {
			t.Fatal("without the last edge", net)
		}
	}
}

func TestNetOkBounds(t *testing.T) {
	for nodes := 2; nodes <= impl.MaxNodes; nodes++ {
		for _, edge := range allPairs(nodes) {
			net := impl.Net{Nodes: nodes, Edges: slices.Repeat([]impl.Edge{edge}, impl.MaxEdges)}
			if !impl.NetOk(net) {
				t.Fatal("the most edges with the same ends", net)
			}
			net.Edges = append(net.Edges, edge)
			if impl.NetOk(net) {
				t.Fatal("an edge too many", net)
			}
			if impl.NetOk(impl.Net{Nodes: edge.B - 1, Edges: []impl.Edge{edge}}) {
				t.Fatal("a node too few", edge)
			}
		}
	}
	if !impl.NetOk(fullNet()) || !impl.NetOk(kite()) {
		t.Fatal("ordinary nets")
	}
}

func TestInvalidNets(t *testing.T) {
	for _, net := range invalidNets() {
		if impl.NetOk(net) {
			t.Fatal("a net", net)
		}
		for _, n := range []int{math.MinInt, -1, 0, 1, 2, 3, math.MaxInt} {
			if impl.StateOk(net, n) {
				t.Fatal("a state", net, n)
			}
			mustBe(t, "ThereOf", net, impl.ThereOf(net, n), -1)
			mustBe(t, "EdgesAt", net, impl.EdgesAt(net, n), -1)
			noWithout(t, net, n)
			noMadeOne(t, net, n)
		}
	}
}

// noWithout fails a test if a net can be told without an edge.
func noWithout(t *testing.T, net impl.Net, at int) {
	t.Helper()
	if got, ok := impl.WithoutEdge(net, at); ok || !sameNet(got, impl.Net{}) {
		t.Fatal("WithoutEdge", net, at, got, ok)
	}
}

// noMadeOne fails a test if the ends of an edge of a net can be made one.
func noMadeOne(t *testing.T, net impl.Net, at int) {
	t.Helper()
	if got, left, ok := impl.MadeOne(net, at); ok || left != -1 || !sameNet(got, impl.Net{}) {
		t.Fatal("MadeOne", net, at, got, left, ok)
	}
}

func TestPromise2NothingThereIsAState(t *testing.T) {
	for _, net := range validNets() {
		greatest := 0
		for range net.Edges {
			greatest = 2*greatest + 1
		}
		if !impl.StateOk(net, 0) || !impl.StateOk(net, greatest) || !impl.StateOk(net, greatest/2) {
			t.Fatal("states", net)
		}
		if impl.StateOk(net, 2*greatest+1) {
			t.Fatal("a bit too many", net)
		}
		for _, state := range wrongNumbers(0, greatest+1) {
			if impl.StateOk(net, state) {
				t.Fatal("a state", net, state)
			}
		}
	}
}

func TestStatesOfEachNumberOfEdges(t *testing.T) {
	powers := []int{1, 2, 4, 8, 16, 32, 64, 128, 256, 512}
	for many, power := range powers {
		net := impl.Net{Nodes: 2, Edges: slices.Repeat(edges([2]int{1, 2}), many)}
		for state := -3; state < 1030; state++ {
			if impl.StateOk(net, state) != (0 <= state && state < power) {
				t.Fatal(many, state)
			}
		}
	}
}

func TestPromise3ThereAndNotThereAreAllEdges(t *testing.T) {
	for _, net := range validNets() {
		all := 1<<len(net.Edges) - 1
		for state := 0; state <= all; state++ {
			want := 0
			for at := range net.Edges {
				want += state >> at % 2
			}
			got := impl.ThereOf(net, state)
			mustBe(t, "ThereOf", net, got, want)
			mustBe(t, "both together", net, got+impl.ThereOf(net, all-state), len(net.Edges))
		}
		for _, state := range wrongNumbers(0, all+1) {
			mustBe(t, "ThereOf", net, impl.ThereOf(net, state), -1)
		}
	}
	mustBe(t, "ThereOf", kite(), impl.ThereOf(kite(), 11), 3)
	mustBe(t, "ThereOf", fullNet(), impl.ThereOf(fullNet(), 511), 9)
	mustBe(t, "ThereOf", fullNet(), impl.ThereOf(fullNet(), 256), 1)
}

func TestPromise4EachEdgeHasTwoEnds(t *testing.T) {
	for _, net := range validNets() {
		sum := 0
		for node := 1; node <= net.Nodes; node++ {
			at := impl.EdgesAt(net, node)
			if at < 0 || at > len(net.Edges) {
				t.Fatal("more than the edges", net, node, at)
			}
			sum += at
		}
		mustBe(t, "all ends", net, sum, 2*len(net.Edges))
		for _, node := range wrongNumbers(1, net.Nodes+1) {
			mustBe(t, "EdgesAt", net, impl.EdgesAt(net, node), -1)
		}
	}
}

func TestEdgesAtNodes(t *testing.T) {
	for _, c := range []struct {
		net  impl.Net
		want []int
	}{
		{netOf(2), []int{0, 0}},
		{netOf(2, [2]int{1, 2}), []int{1, 1}},
		{netOf(3, [2]int{1, 3}, [2]int{1, 3}), []int{2, 0, 2}},
		{kite(), []int{2, 2, 3, 1}},
		{fullNet(), []int{2, 4, 2, 2, 4, 4}},
	} {
		for i, want := range c.want {
			mustBe(t, "EdgesAt", c.net, impl.EdgesAt(c.net, i+1), want)
		}
	}
}

func TestPromise5WithoutAnEdgeBothEndsHaveOneFewer(t *testing.T) {
	for _, net := range validNets() {
		for at, gone := range net.Edges {
			got, ok := impl.WithoutEdge(net, at)
			if !ok || !impl.NetOk(got) || len(got.Edges) != len(net.Edges)-1 {
				t.Fatal("no net", net, at, got, ok)
			}
			for node := 1; node <= net.Nodes; node++ {
				want := impl.EdgesAt(net, node)
				if node == gone.A || node == gone.B {
					want--
				}
				mustBe(t, "EdgesAt", got, impl.EdgesAt(got, node), want)
			}
			// Put in again at its place, the edge gives the net of before: so the others keep their order.
			if !sameNet(net, impl.Net{Nodes: got.Nodes, Edges: slices.Insert(slices.Clone(got.Edges), at, gone)}) {
				t.Fatal("other edges", net, at, got)
			}
		}
		for _, at := range wrongNumbers(0, len(net.Edges)) {
			noWithout(t, net, at)
		}
	}
}

func TestWithoutEdgeExamples(t *testing.T) {
	for at, want := range []impl.Net{
		netOf(4, [2]int{2, 3}, [2]int{1, 3}, [2]int{3, 4}),
		netOf(4, [2]int{1, 2}, [2]int{1, 3}, [2]int{3, 4}),
		netOf(4, [2]int{1, 2}, [2]int{2, 3}, [2]int{3, 4}),
		netOf(4, [2]int{1, 2}, [2]int{2, 3}, [2]int{1, 3}),
	} {
		if got, ok := impl.WithoutEdge(kite(), at); !ok || !sameNet(got, want) {
			t.Fatal(at, got, ok)
		}
	}
	if got, ok := impl.WithoutEdge(netOf(2, [2]int{1, 2}), 0); !ok || !sameNet(got, netOf(2)) {
		t.Fatal("the only edge", got, ok)
	}
	// Only the edge itself is taken away, not those with the same ends.
	if got, ok := impl.WithoutEdge(netOf(3, [2]int{1, 2}, [2]int{1, 2}, [2]int{2, 3}), 1); !ok || !sameNet(got, netOf(3, [2]int{1, 2}, [2]int{2, 3})) {
		t.Fatal("same ends", got, ok)
	}
}

func TestPromise6MadeOneBothNodesHaveAllEdgesOfBoth(t *testing.T) {
	for _, net := range validNets() {
		for at, gone := range net.Edges {
			if net.Nodes < 3 {
				noMadeOne(t, net, at)
				continue
			}
			got, left, ok := impl.MadeOne(net, at)
			if !ok || !impl.NetOk(got) || got.Nodes != net.Nodes-1 {
				t.Fatal("no net", net, at, got, ok)
			}
			mustBe(t, "all edges", net, len(got.Edges)+left+1, len(net.Edges))
			want := impl.EdgesAt(net, gone.A) + impl.EdgesAt(net, gone.B) - 2*(left+1)
			mustBe(t, "the new node", net, impl.EdgesAt(got, gone.A), want)
			wantNet, wantLeft := otherwiseOne(net, at)
			if left != wantLeft || !sameNet(got, wantNet) {
				t.Fatal("made one", net, at, got, left, wantNet, wantLeft)
			}
		}
		for _, at := range wrongNumbers(0, len(net.Edges)) {
			noMadeOne(t, net, at)
		}
	}
}

// otherwiseOne makes both ends of an edge one in another way: the new number of a node is its place among those that are left.
func otherwiseOne(net impl.Net, at int) (impl.Net, int) {
	gone := net.Edges[at]
	var nodes []int
	for node := 1; node <= net.Nodes; node++ {
		if node != gone.B {
			nodes = append(nodes, node)
		}
	}
	made, others := impl.Net{Nodes: len(nodes)}, -1
	for _, edge := range net.Edges {
		ends := []int{edge.A, edge.B}
		for i, end := range ends {
			if end == gone.B {
				end = gone.A
			}
			ends[i] = slices.Index(nodes, end) + 1
		}
		slices.Sort(ends)
		if ends[0] == ends[1] {
			others++
			continue
		}
		made.Edges = append(made.Edges, impl.Edge{A: ends[0], B: ends[1]})
	}
	return made, others
}

func TestMadeOneExamples(t *testing.T) {
	for _, c := range []struct {
		net  impl.Net
		at   int
		want impl.Net
		left int
	}{
		{kite(), 0, netOf(3, [2]int{1, 2}, [2]int{1, 2}, [2]int{2, 3}), 0},
		{kite(), 1, netOf(3, [2]int{1, 2}, [2]int{1, 2}, [2]int{2, 3}), 0},
		{kite(), 2, netOf(3, [2]int{1, 2}, [2]int{1, 2}, [2]int{1, 3}), 0},
		{kite(), 3, netOf(3, [2]int{1, 2}, [2]int{2, 3}, [2]int{1, 3}), 0},
		{netOf(3, [2]int{1, 3}), 0, netOf(2), 0},
		{netOf(3, [2]int{1, 2}, [2]int{2, 3}, [2]int{1, 2}, [2]int{1, 2}), 2, netOf(2, [2]int{1, 2}), 2},
		{netOf(3, [2]int{1, 3}, [2]int{2, 3}), 0, netOf(2, [2]int{1, 2}), 0},
		{impl.Net{Nodes: 3, Edges: slices.Repeat(edges([2]int{2, 3}), 9)}, 8, netOf(2), 8},
		{fullNet(), 0, netOf(5, [2]int{4, 5}, [2]int{1, 5}, [2]int{1, 4}, [2]int{1, 4}, [2]int{2, 3}, [2]int{3, 5}, [2]int{2, 4}, [2]int{1, 5}), 0},
		{fullNet(), 2, netOf(5, [2]int{1, 2}, [2]int{1, 5}, [2]int{2, 5}, [2]int{2, 5}, [2]int{3, 4}, [2]int{1, 4}, [2]int{3, 5}, [2]int{1, 2}), 0},
		{fullNet(), 3, netOf(5, [2]int{1, 2}, [2]int{2, 5}, [2]int{1, 5}, [2]int{3, 4}, [2]int{4, 5}, [2]int{2, 3}, [2]int{2, 5}), 1},
		{fullNet(), 8, netOf(5, [2]int{1, 2}, [2]int{2, 5}, [2]int{1, 2}, [2]int{2, 5}, [2]int{2, 5}, [2]int{3, 4}, [2]int{2, 4}, [2]int{3, 5}), 0},
	} {
		if got, left, ok := impl.MadeOne(c.net, c.at); !ok || left != c.left || !sameNet(got, c.want) {
			t.Fatal(c.net, c.at, got, left, ok)
		}
	}
}

// callAll calls each function of chapter 1 with a net and a number, and returns the nets that come.
func callAll(net impl.Net, n int) []impl.Net {
	impl.NetOk(net)
	impl.StateOk(net, n)
	impl.ThereOf(net, n)
	impl.EdgesAt(net, n)
	without, _ := impl.WithoutEdge(net, n)
	made, _, _ := impl.MadeOne(net, n)
	return []impl.Net{without, made}
}

func TestNetsAreNotWrittenTo(t *testing.T) {
	for _, net := range append(validNets(), invalidNets()...) {
		lent, memory := lentNet(net)
		before := slices.Clone(memory)
		for n := -1; n <= len(net.Edges)+1; n++ {
			callAll(lent, n)
		}
		if !slices.Equal(memory, before) {
			t.Fatal("written to", net)
		}
	}
}

func TestNetsShareNoMemory(t *testing.T) {
	for _, net := range append(validNets(), invalidNets()...) {
		for at := range net.Edges {
			lent, memory := lentNet(net)
			before := slices.Clone(memory)
			first, second := callAll(lent, at), callAll(lent, at)
			want := []impl.Net{copyOf(second[0]), copyOf(second[1])}
			for _, result := range first {
				overwrite(result)
			}
			if !slices.Equal(memory, before) {
				t.Fatal("a result lies in an argument", net, at)
			}
			overwrite(impl.Net{Edges: memory})
			for i, result := range second {
				if !sameNet(result, want[i]) {
					t.Fatal("a result lies in an argument, or in another result", net, at)
				}
			}
		}
	}
}

func TestCallsKeepNoState(t *testing.T) {
	nets := append(validNets(), invalidNets()...)
	tell := func(net impl.Net, n int) [4]int {
		without, _ := impl.WithoutEdge(net, n)
		made, left, _ := impl.MadeOne(net, n)
		return [4]int{impl.ThereOf(net, n), impl.EdgesAt(net, n), left, 100*len(without.Edges) + len(made.Edges)}
	}
	var first [][4]int
	for _, net := range nets {
		first = append(first, tell(net, 1))
	}
	for i, net := range slices.Backward(nets) {
		if tell(net, 1) != first[i] {
			t.Fatal("told otherwise", net)
		}
	}
}
