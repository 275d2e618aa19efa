package tests

import (
	"math"
	"math/bits"
	"slices"
	"testing"

	"loop.example/failingnets/impl"
)

// ways tells for each two nodes, by their numbers, whether one comes from the first to the second one.
type ways [impl.MaxNodes + 1][impl.MaxNodes + 1]bool

// waysIn finds ways in another way than by pieces: over one node more after the other.
func waysIn(net impl.Net, state int) ways {
	var w ways
	for node := 1; node <= net.Nodes; node++ {
		w[node][node] = true
	}
	for at, edge := range net.Edges {
		if state>>at%2 == 1 {
			w[edge.A][edge.B], w[edge.B][edge.A] = true, true
		}
	}
	for over := 1; over <= net.Nodes; over++ {
		for a := 1; a <= net.Nodes; a++ {
			for b := 1; b <= net.Nodes; b++ {
				w[a][b] = w[a][b] || w[a][over] && w[over][b]
			}
		}
	}
	return w
}

// pieces counts the nodes from which one comes to none with a lesser number: one of each piece.
func (w ways) pieces(nodes int) int {
	count := 0
	for node := 1; node <= nodes; node++ {
		if !slices.Contains(w[node][:node], true) {
			count++
		}
	}
	return count
}

// states returns how many states a net has.
func states(net impl.Net) int {
	return 1 << len(net.Edges)
}

// lacking returns the places of all edges that are not there in a state.
func lacking(net impl.Net, state int) []int {
	return present(net, states(net)-1-state)
}

// present returns the places of all edges that are there in a state.
func present(net impl.Net, state int) []int {
	var list []int
	for at := range net.Edges {
		if state>>at%2 == 1 {
			list = append(list, at)
		}
	}
	return list
}

// ladder is a net whose last node only a way over all others joins to the first one, its edges in a given order.
func ladder(order []int) impl.Net {
	net := impl.Net{Nodes: impl.MaxNodes}
	for _, place := range order {
		net.Edges = append(net.Edges, impl.Edge{A: place + 1, B: place + 2})
	}
	return net
}

// allOrders returns all orders of the numbers from 0 up to one less than so many.
func allOrders(many int) [][]int {
	list := [][]int{nil}
	for next := range many {
		var longer [][]int
		for _, order := range list {
			for at := 0; at <= len(order); at++ {
				longer = append(longer, slices.Insert(slices.Clone(order), at, next))
			}
		}
		list = longer
	}
	return list
}

// noPieces fails a test unless each function of chapter 2 returns its fixed result.
func noPieces(t *testing.T, net impl.Net, state int) {
	t.Helper()
	mustBe(t, "PiecesIn", net, impl.PiecesIn(net, state), -1)
	mustBe(t, "RankOf", net, impl.RankOf(net, state), -1)
	if impl.WholeOk(net, state) || impl.RingFreeOk(net, state) {
		t.Fatal("whole, or without a ring", net, state)
	}
	for _, ends := range [][2]int{{1, 1}, {1, 2}, {2, 1}, {2, 2}, {1, 3}, {0, 0}, {-1, -1}} {
		notJoined(t, net, state, ends[0], ends[1])
	}
}

// notJoined fails a test if two nodes are joined, either way.
func notJoined(t *testing.T, net impl.Net, state, a, b int) {
	t.Helper()
	if impl.JoinedOk(net, state, a, b) || impl.JoinedOk(net, state, b, a) {
		t.Fatal("joined", net, state, a, b)
	}
}

func TestPromise7AFurtherEdgeJoinsTwoPiecesAtMost(t *testing.T) {
	for _, net := range validNets() {
		for state := range states(net) {
			got := impl.PiecesIn(net, state)
			mustBe(t, "PiecesIn", net, got, waysIn(net, state).pieces(net.Nodes))
			if got < 1 || got < net.Nodes-impl.ThereOf(net, state) {
				t.Fatal("too few pieces", net, state, got)
			}
			for _, at := range lacking(net, state) {
				more := impl.PiecesIn(net, state|1<<at)
				if more != got && more != got-1 {
					t.Fatal("a further edge", net, state, at, got, more)
				}
			}
		}
	}
}

func TestPromise8JoinedGoesOn(t *testing.T) {
	for _, net := range validNets() {
		for state := range states(net) {
			joinedGoesOn(t, net, state)
			for _, at := range present(net, state) {
				if edge := net.Edges[at]; !impl.JoinedOk(net, state, edge.A, edge.B) {
					t.Fatal("both ends of an edge that is there", net, state, at)
				}
			}
		}
	}
}

// joinedGoesOn fails a test unless nodes are joined both ways, to themselves, over third nodes, and just where there is a way.
func joinedGoesOn(t *testing.T, net impl.Net, state int) {
	t.Helper()
	var joined ways
	for a := 1; a <= net.Nodes; a++ {
		for b := 1; b <= net.Nodes; b++ {
			joined[a][b] = impl.JoinedOk(net, state, a, b)
		}
	}
	if joined != waysIn(net, state) {
		t.Fatal("other ways", net, state, joined)
	}
	for a := 1; a <= net.Nodes; a++ {
		for b := 1; b <= net.Nodes; b++ {
			for c := 1; c <= net.Nodes; c++ {
				if !joined[a][a] || joined[a][b] != joined[b][a] || joined[a][b] && joined[b][c] && !joined[a][c] {
					t.Fatal("joined does not go on", net, state, a, b, c)
				}
			}
		}
	}
}

func TestPromise9AWholeNetHasAllNodesJoined(t *testing.T) {
	for _, net := range validNets() {
		for state := range states(net) {
			all := true
			for node := 1; node <= net.Nodes; node++ {
				all = all && impl.JoinedOk(net, state, 1, node)
			}
			if impl.WholeOk(net, state) != all {
				t.Fatal("whole", net, state, !all)
			}
			if all && impl.ThereOf(net, state) < net.Nodes-1 {
				t.Fatal("too few edges", net, state)
			}
		}
	}
}

func TestPromise10RanksOfBothTogetherAreAtMostBothRanks(t *testing.T) {
	for _, net := range validNets() {
		var rank []int
		for state := range states(net) {
			rank = append(rank, impl.RankOf(net, state))
			mustBe(t, "RankOf", net, rank[state], net.Nodes-waysIn(net, state).pieces(net.Nodes))
			if rank[state] > impl.ThereOf(net, state) {
				t.Fatal("more than the edges", net, state, rank[state])
			}
		}
		for one := range rank {
			for other := range rank {
				if rank[one&other]+rank[one|other] > rank[one]+rank[other] {
					t.Fatal("both together", net, one, other)
				}
				if rank[one|other] < rank[one] {
					t.Fatal("more has less", net, one, other)
				}
			}
		}
	}
}

func TestPromise11WithoutRingsEachEdgeCounts(t *testing.T) {
	for _, net := range validNets() {
		for state := range states(net) {
			got, each := impl.RingFreeOk(net, state), true
			for _, at := range present(net, state) {
				without := state &^ (1 << at)
				each = each && impl.PiecesIn(net, without) == impl.PiecesIn(net, state)+1
				if got && !impl.RingFreeOk(net, without) {
					t.Fatal("a ring with an edge fewer", net, state, at)
				}
			}
			if got != each || got != (impl.RankOf(net, state) == bits.OnesCount(uint(state))) {
				t.Fatal("without a ring", net, state, got)
			}
		}
	}
}

// pieceCase is what chapter 2 tells of a state.
type pieceCase struct {
	net      impl.Net
	state    int
	pieces   int
	ringFree bool
}

// check fails a test unless all is told of a state as its case has it.
func (c pieceCase) check(t *testing.T) {
	t.Helper()
	mustBe(t, "PiecesIn", c.net, impl.PiecesIn(c.net, c.state), c.pieces)
	mustBe(t, "RankOf", c.net, impl.RankOf(c.net, c.state), c.net.Nodes-c.pieces)
	if impl.WholeOk(c.net, c.state) != (c.pieces == 1) {
		t.Fatal("WholeOk", c.net, c.state)
	}
	if impl.RingFreeOk(c.net, c.state) != c.ringFree {
		t.Fatal("RingFreeOk", c.net, c.state)
	}
}

func TestPieceExamples(t *testing.T) {
	ring := netOf(6, [2]int{1, 2}, [2]int{2, 3}, [2]int{3, 4}, [2]int{4, 5}, [2]int{5, 6}, [2]int{1, 6})
	two := netOf(6, [2]int{1, 5}, [2]int{3, 5}, [2]int{1, 3}, [2]int{2, 6}, [2]int{2, 4}, [2]int{4, 6})
	for _, c := range []pieceCase{
		{kite(), 0, 4, true},
		{kite(), 1, 3, true},
		{kite(), 3, 2, true},
		{kite(), 7, 2, false},
		{kite(), 8, 3, true},
		{kite(), 9, 2, true},
		{kite(), 11, 1, true},
		{kite(), 13, 1, true},
		{kite(), 15, 1, false},
		{ring, 0, 6, true},
		{ring, 31, 1, true},
		{ring, 62, 1, true},
		{ring, 63, 1, false},
		{two, 63, 2, false},
		{two, 27, 2, true},
		{two, 31, 2, false},
		{two, 56, 4, false},
		{fullNet(), 0, 6, true},
		{fullNet(), 511, 1, false},
		{fullNet(), 24, 5, false},
		{fullNet(), 8, 5, true},
		{fullNet(), 16, 5, true},
	} {
		c.check(t)
	}
}

func TestPiecesOfNetsWithoutEdges(t *testing.T) {
	for nodes := 2; nodes <= impl.MaxNodes; nodes++ {
		for _, none := range [][]impl.Edge{nil, {}} {
			net := impl.Net{Nodes: nodes, Edges: none}
			pieceCase{net, 0, nodes, true}.check(t)
			for a := 1; a <= nodes; a++ {
				for b := 1; b <= nodes; b++ {
					if impl.JoinedOk(net, 0, a, b) != (a == b) {
						t.Fatal("without edges", nodes, a, b)
					}
				}
			}
			for _, state := range wrongNumbers(0, 1) {
				noPieces(t, net, state)
			}
		}
	}
}

func TestPiecesOfEdgesWithTheSameEnds(t *testing.T) {
	for nodes := 2; nodes <= impl.MaxNodes; nodes++ {
		for _, pair := range allPairs(nodes) {
			net := impl.Net{Nodes: nodes, Edges: slices.Repeat([]impl.Edge{pair}, impl.MaxEdges)}
			pieceCase{net, 0, nodes, true}.check(t)
			for state := 1; state < 512; state++ {
				pieceCase{net, state, nodes - 1, state&(state-1) == 0}.check(t)
				if !impl.JoinedOk(net, state, pair.A, pair.B) || !impl.JoinedOk(net, state, pair.B, pair.A) {
					t.Fatal("both ends", net, state)
				}
			}
			noPieces(t, net, 512)
		}
	}
}

func TestEdgesThatJoinWhatIsJoined(t *testing.T) {
	// In all orders of the edges of a ring the last one joins what is joined already, over one node and over four.
	for _, order := range allOrders(3) {
		ring := edges([2]int{1, 2}, [2]int{2, 3}, [2]int{1, 3})
		net := impl.Net{Nodes: 3, Edges: []impl.Edge{ring[order[0]], ring[order[1]], ring[order[2]]}}
		pieceCase{net, 3, 1, true}.check(t)
		pieceCase{net, 7, 1, false}.check(t)
	}
	for _, order := range allOrders(impl.MaxNodes - 1) {
		net := ladder(order)
		net.Edges = append(net.Edges, impl.Edge{A: 1, B: impl.MaxNodes})
		pieceCase{net, 31, 1, true}.check(t)
		pieceCase{net, 63, 1, false}.check(t)
		pieceCase{net, 62, 1, true}.check(t)
	}
}

func TestNodesJoinedOnlyOverSeveralOthers(t *testing.T) {
	for _, order := range allOrders(impl.MaxNodes - 1) {
		net := ladder(order)
		if !impl.JoinedOk(net, 31, 1, impl.MaxNodes) || !impl.JoinedOk(net, 31, impl.MaxNodes, 1) {
			t.Fatal("all edges there", net)
		}
		for state := range states(net) {
			joinedGoesOn(t, net, state)
			if state != 31 {
				notJoined(t, net, state, 1, impl.MaxNodes)
			}
			pieceCase{net, state, impl.MaxNodes - bits.OnesCount(uint(state)), true}.check(t)
		}
	}
}

func TestWrongStatesHaveNoPieces(t *testing.T) {
	for _, net := range validNets() {
		for _, state := range wrongNumbers(0, states(net)) {
			noPieces(t, net, state)
		}
	}
}

func TestWrongNodesAreNotJoined(t *testing.T) {
	for _, net := range validNets() {
		for _, state := range []int{0, states(net) - 1} {
			wrong := wrongNumbers(1, net.Nodes+1)
			for _, a := range wrong {
				for b := 1; b <= net.Nodes; b++ {
					notJoined(t, net, state, a, b)
				}
				for _, b := range wrong {
					notJoined(t, net, state, a, b)
				}
			}
		}
	}
}

func TestInvalidNetsHaveNoPieces(t *testing.T) {
	for _, net := range invalidNets() {
		for _, state := range []int{math.MinInt, -1, 0, 1, 2, 3, 511, 512, math.MaxInt} {
			noPieces(t, net, state)
			notJoined(t, net, state, net.Nodes, net.Nodes)
			notJoined(t, net, state, 1, net.Nodes)
		}
	}
}

// tellPieces returns all that chapter 2 tells of a state and two nodes.
func tellPieces(net impl.Net, state, a, b int) [5]int {
	tell := [5]int{impl.PiecesIn(net, state), impl.RankOf(net, state)}
	for i, yes := range []bool{impl.WholeOk(net, state), impl.RingFreeOk(net, state), impl.JoinedOk(net, state, a, b)} {
		if yes {
			tell[i+2] = 1
		}
	}
	return tell
}

func TestPiecesLeaveNetsAsTheyAre(t *testing.T) {
	for _, net := range append(validNets(), invalidNets()...) {
		lent, memory := lentNet(net)
		before := slices.Clone(memory)
		for _, state := range []int{-1, 0, 1, 2, 5, 1<<min(len(net.Edges), 10) - 1, 512} {
			tellPieces(lent, state, 1, 2)
			tellPieces(lent, state, lent.Nodes, 1)
		}
		if !slices.Equal(memory, before) {
			t.Fatal("written to", net)
		}
	}
}

func TestPiecesKeepNoState(t *testing.T) {
	nets := append(validNets(), invalidNets()...)
	last := func(net impl.Net) [5]int {
		return tellPieces(net, 1<<min(len(net.Edges), 10)-1, 1, 2)
	}
	var first [][5]int
	for _, net := range nets {
		first = append(first, last(net))
	}
	for i, net := range slices.Backward(nets) {
		if last(net) != first[i] {
			t.Fatal("told otherwise", net)
		}
	}
}
