package tests

import (
	"slices"
	"testing"

	"loop.example/failingnets/impl"
)

// lifeNets returns nets of all kinds with few enough edges to be put in order.
func lifeNets() []impl.Net {
	list := append(smallNets(), kite(), fours(), twoRings(), ringNet(6), star(6), ladder([]int{4, 0, 3, 1, 2}))
	return slices.DeleteFunc(list, func(net impl.Net) bool { return len(net.Edges) > impl.MaxOrdered })
}

// otherLife is what a net is told of in another way: of two nodes, by the paths between them.
type otherLife struct {
	edges int
	paths []int
}

// lifeBetween returns what is told in another way of two nodes.
func lifeBetween(net impl.Net, pair [2]int) otherLife {
	return otherLife{len(net.Edges), otherPaths(net, pair[0], pair[1])}
}

// placesOn returns where in an order the edges of a path are.
func placesOn(path int, order []int) []int {
	var places []int
	for place, at := range order {
		if path>>at%2 == 1 {
			places = append(places, place)
		}
	}
	return places
}

// fails returns how many edges fail until no path is left: each fails with the first of its edges.
func (l otherLife) fails(order []int) int {
	last := 0
	for _, path := range l.paths {
		last = max(last, 1+slices.Min(placesOn(path, order)))
	}
	return last
}

// joins returns how many edges come until a path is there: each comes with the last of its edges.
func (l otherLife) joins(order []int) int {
	first := l.edges + 1
	for _, path := range l.paths {
		first = min(first, 1+slices.Max(placesOn(path, order)))
	}
	return first
}

// lives returns in how many orders so many edges fail.
func (l otherLife) lives() []int {
	row := make([]int, l.edges+1)
	for _, order := range allOrders(l.edges) {
		row[l.fails(order)]++
	}
	return row
}

// fits reports whether edges that fail, or come, are as many as the least and the greatest number allow; what is -1 is no bound.
func fits(got, least, greatest int) bool {
	return (least == -1 || got >= least) && (greatest == -1 || got <= greatest)
}

// longestLife returns one more than the edges less the shortest path; -1 if there is no path.
func longestLife(net impl.Net, pair [2]int) int {
	if shortest := impl.ShortestOf(net, pair[0], pair[1]); shortest != -1 {
		return len(net.Edges) + 1 - shortest
	}
	return -1
}

func TestPromise83WhatFailsInOrderComesBackInTheOppositeOne(t *testing.T) {
	for _, net := range lifeNets() {
		for _, pair := range pairsFor(net) {
			least, greatest := impl.ThinnestOf(net, pair[0], pair[1]), longestLife(net, pair)
			for _, order := range allOrders(len(net.Edges)) {
				got := impl.FailsAt(net, pair[0], pair[1], order)
				if !fits(got, least, greatest) {
					t.Fatal("FailsAt", net, pair, order, got, least, greatest)
				}
				mustBe(t, "both together", net, got+impl.JoinsAt(net, pair[0], pair[1], backward(order)), len(net.Edges)+1)
			}
		}
	}
}

func TestPromise84PathsComeOneAfterTheOther(t *testing.T) {
	for _, net := range lifeNets() {
		for _, pair := range pairsFor(net) {
			least, greatest := impl.ShortestOf(net, pair[0], pair[1]), len(net.Edges)+1-impl.ThinnestOf(net, pair[0], pair[1])
			for _, order := range allOrders(len(net.Edges)) {
				got := impl.JoinsAt(net, pair[0], pair[1], order)
				if !fits(got, least, greatest) {
					t.Fatal("JoinsAt", net, pair, order, got, least, greatest)
				}
				mustBe(t, "both exchanged", net, impl.JoinsAt(net, pair[1], pair[0], order), got)
			}
		}
	}
}

func TestFailingAndComingAreAsFoundOtherwise(t *testing.T) {
	for _, net := range lifeNets() {
		for _, pair := range pairsFor(net) {
			life := lifeBetween(net, pair)
			for _, order := range allOrders(len(net.Edges)) {
				isFailing(t, net, pair, order, life.fails(order), life.joins(order))
			}
		}
	}
}

// isFailing fails a test unless so many edges fail, and so many come, in an order.
func isFailing(t *testing.T, net impl.Net, pair [2]int, order []int, fails, joins int) {
	t.Helper()
	gotFails, gotJoins := impl.FailsAt(net, pair[0], pair[1], order), impl.JoinsAt(net, pair[0], pair[1], order)
	if gotFails != fails || gotJoins != joins {
		t.Fatal("FailsAt and JoinsAt", net, pair, order, gotFails, gotJoins, "and not", fails, joins)
	}
}

// lastThere returns the place of the last number of a row that is not 0; -1 if there is none.
func lastThere(row []int) int {
	last := -1
	for at, number := range row {
		if number != 0 {
			last = at
		}
	}
	return last
}

func TestPromise85LivesAreToldByCountsOfStates(t *testing.T) {
	for _, net := range lifeNets() {
		for _, pair := range pairsFor(net) {
			lives := impl.LivesOf(net, pair[0], pair[1])
			mustBeRow(t, "LivesBy", []any{net, pair}, impl.LivesBy(net, pair[0], pair[1]), lives)
			mustBe(t, "all lives", net, sumOf(lives), impl.FactorialOf(len(net.Edges)))
			first := slices.IndexFunc(lives, func(many int) bool { return many != 0 })
			mustBe(t, "the shortest life", net, first, impl.ThinnestOf(net, pair[0], pair[1]))
			longest := longestLife(net, pair)
			if longest == -1 {
				longest = 0
			}
			mustBe(t, "the longest life", net, lastThere(lives), longest)
		}
	}
}

func TestPromise86LivesAreTheSameForBothNodesExchanged(t *testing.T) {
	for _, net := range lifeNets() {
		for _, edge := range allPairs(net.Nodes) {
			lives := impl.LivesBy(net, edge.A, edge.B)
			mustBeRow(t, "both exchanged", []any{net, edge}, impl.LivesBy(net, edge.B, edge.A), lives)
			mustBe(t, "numbers", net, len(lives), len(net.Edges)+1)
			if slices.Min(lives) < 0 {
				t.Fatal("less than 0", net, edge, lives)
			}
		}
	}
}

func TestPromise87LivesAreSummedFromStatesThatWork(t *testing.T) {
	for _, net := range lifeNets() {
		for _, pair := range pairsFor(net) {
			counts := impl.JoiningCounts(net, pair[0], pair[1])
			sum := 0
			for failed := range net.Edges {
				left := len(net.Edges) - failed
				sum += counts[left] * impl.FactorialOf(failed) * impl.FactorialOf(left)
			}
			mustBe(t, "LifeSum", net, impl.LifeSum(net, pair[0], pair[1]), sum)
		}
	}
}

// lifeCase is what is told of all orders of the edges of a net, for two different nodes.
type lifeCase struct {
	net   impl.Net
	a     int
	b     int
	lives []int
	sum   int
}

// check fails a test unless all is told of a net as its case has it, for both nodes and for both exchanged.
func (c lifeCase) check(t *testing.T) {
	t.Helper()
	for _, pair := range [][2]int{{c.a, c.b}, {c.b, c.a}} {
		about := []any{c.net, pair}
		mustBeRow(t, "LivesOf", about, impl.LivesOf(c.net, pair[0], pair[1]), c.lives)
		mustBeRow(t, "LivesBy", about, impl.LivesBy(c.net, pair[0], pair[1]), c.lives)
		mustBeNumber(t, "LifeSum", about, impl.LifeSum(c.net, pair[0], pair[1]), c.sum)
	}
}

// only returns a row for so many edges in which just one number is not 0.
func only(edges, at, number int) []int {
	row := make([]int, edges+1)
	row[at] = number
	return row
}

func TestLivesAreThoseFoundOtherwise(t *testing.T) {
	for at, net := range lifeNets() {
		pairs := allPairs(net.Nodes)
		if len(net.Edges) > 4 {
			// Of nets with many orders one pair is enough, another one for each net.
			pairs = pairs[at%len(pairs):][:1]
		}
		for _, edge := range pairs {
			lives := lifeBetween(net, [2]int{edge.A, edge.B}).lives()
			sum := 0
			for fails, many := range lives {
				sum += fails * many
			}
			lifeCase{net, edge.A, edge.B, lives, sum}.check(t)
		}
	}
}
