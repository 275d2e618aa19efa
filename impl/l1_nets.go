package impl

import (
	"math/bits"
	"slices"
)

// MaxNodes is the maximum number of nodes of a net, and MaxEdges that of edges.
const (
	MaxNodes = 6
	MaxEdges = 9
)

// Edge has two ends (A, B), by the numbers of nodes, from 1 on.
type Edge struct {
	A int
	B int
}

// Net has so many nodes (Nodes), and edges (Edges).
type Net struct {
	Nodes int
	Edges []Edge
}

// bitSet is a state as a set: the thing at a place is in it if the bit at that place is 1.
type bitSet uint

// size returns how many things are in a set.
func (s bitSet) size() int {
	return bits.OnesCount(uint(s))
}

// has reports whether the thing at a place, from 0 on, is in a set.
func (s bitSet) has(at int) bool {
	return s>>at&1 == 1
}

// lowest returns the place of the first thing of a set that is not empty.
func (s bitSet) lowest() int {
	return bits.TrailingZeros(uint(s))
}

// fits reports whether an edge has its lesser end first, and both ends among so many nodes.
func (e Edge) fits(nodes int) bool {
	return 1 <= e.A && e.A < e.B && e.B <= nodes
}

// endsAt reports whether a node is an end of an edge.
func (e Edge) endsAt(node int) bool {
	return e.A == node || e.B == node
}

// NetOk reports whether a net has 2..MaxNodes nodes, and at most MaxEdges edges, each with A less than B, both in 1..Nodes; several edges may have the same ends.
func NetOk(net Net) bool {
	if net.Nodes < 2 || net.Nodes > MaxNodes || len(net.Edges) > MaxEdges {
		return false
	}
	for _, edge := range net.Edges {
		if !edge.fits(net.Nodes) {
			return false
		}
	}
	return true
}

// StateOk reports whether a state of a net (NetOk) is at least 0, and less than 2 taken as many times times itself as there are edges.
func StateOk(net Net, state int) bool {
	// The net comes first: only a valid one has few enough edges to shift by.
	return NetOk(net) && 0 <= state && state < stateCount(net)
}

// stateCount returns how many states a net (NetOk) has.
func stateCount(net Net) int {
	return 1 << len(net.Edges)
}

// nodeOk reports whether a net (NetOk) has a node.
func nodeOk(net Net, node int) bool {
	return NetOk(net) && 1 <= node && node <= net.Nodes
}

// pairOk reports whether a net (NetOk) has both of two different nodes.
func pairOk(net Net, a int, b int) bool {
	return nodeOk(net, a) && nodeOk(net, b) && a != b
}

// edgeAtOk reports whether a net (NetOk) has an edge at a place, from 0 on.
func edgeAtOk(net Net, at int) bool {
	return NetOk(net) && 0 <= at && at < len(net.Edges)
}

// ThereOf returns how many edges are there in a state (StateOk); -1 for others.
func ThereOf(net Net, state int) int {
	if !StateOk(net, state) {
		return -1
	}
	return bitSet(state).size()
}

// EdgesAt returns how many edges of a net (NetOk) have a node, in 1..Nodes, for an end; -1 for others.
func EdgesAt(net Net, node int) int {
	if !nodeOk(net, node) {
		return -1
	}
	count := 0
	for _, edge := range net.Edges {
		if edge.endsAt(node) {
			count++
		}
	}
	return count
}

// WithoutEdge returns a net (NetOk) without the edge at a place, from 0 on, and true; the zero value and false if there is none, and for others.
func WithoutEdge(net Net, at int) (Net, bool) {
	if !edgeAtOk(net, at) {
		return Net{}, false
	}
	return Net{Nodes: net.Nodes, Edges: slices.Concat(net.Edges[:at], net.Edges[at+1:])}, true
}

// MadeOne returns a net (NetOk) of 3 nodes or more in which both ends of the edge at a place, from 0 on, are made one node: the one with the number A; each node with a greater number than B has a number one less then; the edge, and all others with the same ends, are left out; and how many others are left out, and true; the zero value, -1 and false if there is no such edge, and for others. The other edges keep their order.
func MadeOne(net Net, at int) (Net, int, bool) {
	if net.Nodes < 3 || !edgeAtOk(net, at) {
		return Net{}, -1, false
	}
	gone := net.Edges[at]
	rename := renaming(gone)
	var kept []Edge
	for _, edge := range net.Edges {
		if edge == gone {
			continue
		}
		// An edge to B from a node between A and B goes to A then, which is its lesser end.
		a, b := rename(edge.A), rename(edge.B)
		kept = append(kept, Edge{A: min(a, b), B: max(a, b)})
	}
	others := len(net.Edges) - len(kept) - 1
	return Net{Nodes: net.Nodes - 1, Edges: kept}, others, true
}

// renaming returns a function that gives each node the number that it has after both ends of an edge are made one.
func renaming(gone Edge) func(node int) int {
	return func(node int) int {
		switch {
		case node == gone.B:
			return gone.A
		case node > gone.B:
			return node - 1
		}
		return node
	}
}
