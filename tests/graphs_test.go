package tests

import (
	"math"
	"math/rand"
	"slices"
	"strconv"
	"testing"

	"loop.example/linkstaterouting/impl"
)

// oddNumbers are numbers that lie on, just outside or far outside the ranges of nodes, links and costs.
var oddNumbers = []int{math.MinInt, math.MinInt + 1, -21, -2, -1, 0, 1, 7, 8, 9, 13, 14, 15, 20, 21, math.MaxInt - 1, math.MaxInt}

// square is the graph of the command interface.
func square() impl.Graph {
	return impl.Graph{Nodes: 5, Links: []impl.Link{{A: 0, B: 1, Cost: 2}, {A: 0, B: 4, Cost: 3}, {A: 1, B: 2, Cost: 2}, {A: 1, B: 4, Cost: 6}, {A: 2, B: 3, Cost: 2}, {A: 3, B: 4, Cost: 3}}}
}

// fullGraph has as many nodes and links as a graph may have, some of them with the greatest cost.
func fullGraph() impl.Graph {
	g := impl.Graph{Nodes: impl.MaxNodes}
	for a := 0; a < impl.MaxNodes && len(g.Links) < impl.MaxLinks; a++ {
		for b := a + 1; b < impl.MaxNodes && len(g.Links) < impl.MaxLinks; b++ {
			g.Links = append(g.Links, impl.Link{A: a, B: b, Cost: impl.MaxCost - len(g.Links)/2})
		}
	}
	return g
}

// layers has 6 nodes between two ends, in three pairs: 8 shortest paths of equal cost lead from node 0 to node 7.
func layers() impl.Graph {
	return impl.Graph{Nodes: 8, Links: []impl.Link{
		{A: 0, B: 1, Cost: 5}, {A: 0, B: 2, Cost: 5},
		{A: 1, B: 3, Cost: 5}, {A: 1, B: 4, Cost: 5}, {A: 2, B: 3, Cost: 5}, {A: 2, B: 4, Cost: 5},
		{A: 3, B: 5, Cost: 5}, {A: 3, B: 6, Cost: 5}, {A: 4, B: 5, Cost: 5}, {A: 4, B: 6, Cost: 5},
		{A: 5, B: 7, Cost: 5}, {A: 6, B: 7, Cost: 5},
	}}
}

// detours has a link 0-3 of the greatest cost, and three detours of the same cost: over 1, over 2, and over 1 and 2.
func detours() impl.Graph {
	return impl.Graph{Nodes: 4, Links: []impl.Link{{A: 0, B: 1, Cost: 7}, {A: 0, B: 2, Cost: 8}, {A: 0, B: 3, Cost: 20}, {A: 1, B: 2, Cost: 1}, {A: 1, B: 3, Cost: 13}, {A: 2, B: 3, Cost: 12}}}
}

// islands has a link in each of three parts. From the ends of one, those of another one are at the distance -1,
// which added up with a cost must not be taken for a distance.
func islands() impl.Graph {
	return impl.Graph{Nodes: 7, Links: []impl.Link{{A: 0, B: 1, Cost: 1}, {A: 2, B: 3, Cost: 3}, {A: 4, B: 5, Cost: 2}}}
}

// ring has 8 nodes in a circle, and no other links.
func ring() impl.Graph {
	return impl.Graph{Nodes: 8, Links: []impl.Link{{A: 0, B: 1, Cost: 1}, {A: 0, B: 7, Cost: 1}, {A: 1, B: 2, Cost: 1}, {A: 2, B: 3, Cost: 1}, {A: 3, B: 4, Cost: 1}, {A: 4, B: 5, Cost: 1}, {A: 5, B: 6, Cost: 1}, {A: 6, B: 7, Cost: 1}}}
}

// bridge has as many nodes and links as a graph may have: every two of the nodes 0 to 4
// are linked, every two of 5 to 7, and 4 with 5 by link 10.
func bridge() impl.Graph {
	return impl.Graph{Nodes: 8, Links: []impl.Link{
		{A: 0, B: 1, Cost: 20}, {A: 0, B: 2, Cost: 9}, {A: 0, B: 3, Cost: 9}, {A: 0, B: 4, Cost: 9}, {A: 1, B: 2, Cost: 4},
		{A: 1, B: 3, Cost: 4}, {A: 1, B: 4, Cost: 4}, {A: 2, B: 3, Cost: 1}, {A: 2, B: 4, Cost: 1}, {A: 3, B: 4, Cost: 1},
		{A: 4, B: 5, Cost: 7}, {A: 5, B: 6, Cost: 2}, {A: 5, B: 7, Cost: 3}, {A: 6, B: 7, Cost: 1},
	}}
}

// chain is a triangle and a square, which a link, a node and another link join, and a node without links.
func chain() impl.Graph {
	return impl.Graph{Nodes: 8, Links: []impl.Link{{A: 0, B: 1, Cost: 5}, {A: 0, B: 2, Cost: 5}, {A: 1, B: 2, Cost: 5}, {A: 2, B: 3, Cost: 5}, {A: 3, B: 4, Cost: 5}, {A: 4, B: 5, Cost: 5}, {A: 4, B: 6, Cost: 5}, {A: 5, B: 6, Cost: 5}}}
}

// randomGraph returns a valid graph; sparse ones leave nodes without links and parts that do not reach each other.
// The smaller the dearest cost, the more shortest paths have the same cost.
func randomGraph(r *rand.Rand, dearest int) impl.Graph {
	g := impl.Graph{Nodes: 1 + r.Intn(impl.MaxNodes)}
	density := r.Float64()
	for a := range g.Nodes {
		for b := a + 1; b < g.Nodes; b++ {
			if r.Float64() < density && len(g.Links) < impl.MaxLinks {
				g.Links = append(g.Links, impl.Link{A: a, B: b, Cost: 1 + r.Intn(dearest)})
			}
		}
	}
	return g
}

// validGraphs returns graphs with names: those of the edge cases, and many others.
func validGraphs() map[string]impl.Graph {
	graphs := map[string]impl.Graph{
		"one node":           {Nodes: 1},
		"one node, no slice": {Nodes: 1, Links: []impl.Link{}},
		"two nodes, no link": {Nodes: 2},
		"two nodes":          {Nodes: 2, Links: []impl.Link{{A: 0, B: 1, Cost: 1}}},
		"dearest link":       {Nodes: 2, Links: []impl.Link{{A: 0, B: 1, Cost: impl.MaxCost}}},
		"only nodes":         {Nodes: impl.MaxNodes},
		"first node alone":   {Nodes: 4, Links: []impl.Link{{A: 1, B: 2, Cost: 3}, {A: 2, B: 3, Cost: 4}}},
		"middle node alone":  {Nodes: 3, Links: []impl.Link{{A: 0, B: 2, Cost: 5}}},
		"last node alone":    {Nodes: 4, Links: []impl.Link{{A: 0, B: 1, Cost: 3}, {A: 0, B: 2, Cost: 4}}},
		"two parts":          {Nodes: 6, Links: []impl.Link{{A: 0, B: 3, Cost: 1}, {A: 1, B: 4, Cost: 1}, {A: 2, B: 3, Cost: 1}, {A: 4, B: 5, Cost: 1}}},
		"line":               {Nodes: 8, Links: []impl.Link{{A: 0, B: 7, Cost: 20}, {A: 1, B: 6, Cost: 20}, {A: 1, B: 7, Cost: 20}, {A: 2, B: 5, Cost: 20}, {A: 2, B: 6, Cost: 20}, {A: 3, B: 4, Cost: 20}, {A: 3, B: 5, Cost: 20}}},
		"square":             square(),
		"full":               fullGraph(),
		"layers":             layers(),
		"detours":            detours(),
		"islands":            islands(),
		"ring":               ring(),
		"bridge":             bridge(),
		"chain":              chain(),
	}
	r := rand.New(rand.NewSource(1))
	for i := range 300 {
		graphs["random "+strconv.Itoa(i)] = randomGraph(r, impl.MaxCost)
	}
	for i := range 300 {
		graphs["random with equal costs "+strconv.Itoa(i)] = randomGraph(r, 1+i%3)
	}
	return graphs
}

// invalidGraphs returns graphs that break one rule each. All but those without nodes have
// a link 0 between the nodes 0 and 1, so that a function that forgets to check finds something.
func invalidGraphs() map[string]impl.Graph {
	first := impl.Link{A: 0, B: 1, Cost: 1}
	with := func(nodes int, links ...impl.Link) impl.Graph {
		return impl.Graph{Nodes: nodes, Links: append([]impl.Link{first}, links...)}
	}
	many := fullGraph()
	many.Links = append(many.Links, impl.Link{A: 6, B: 7, Cost: 1})
	graphs := map[string]impl.Graph{
		"zero value":            {},
		"too many links":        many,
		"no nodes":              with(0),
		"negative nodes":        with(-1),
		"least nodes":           with(math.MinInt),
		"too many nodes":        with(impl.MaxNodes + 1),
		"greatest nodes":        with(math.MaxInt),
		"end does not exist":    with(3, impl.Link{A: 1, B: 3, Cost: 1}),
		"ends do not exist":     with(3, impl.Link{A: 3, B: 4, Cost: 1}),
		"huge end":              with(3, impl.Link{A: 1, B: math.MaxInt, Cost: 1}),
		"negative end":          {Nodes: 3, Links: []impl.Link{{A: -1, B: 1, Cost: 1}, first}},
		"equal ends":            with(3, impl.Link{A: 2, B: 2, Cost: 1}),
		"ends in reverse":       with(3, impl.Link{A: 2, B: 1, Cost: 1}),
		"link twice":            with(3, first),
		"two costs of one link": with(3, impl.Link{A: 0, B: 1, Cost: 2}),
		"descending by A":       {Nodes: 4, Links: []impl.Link{{A: 1, B: 2, Cost: 1}, first, {A: 2, B: 3, Cost: 1}}},
		"descending by B":       {Nodes: 3, Links: []impl.Link{{A: 0, B: 2, Cost: 1}, first}},
		"only B ascending":      with(5, impl.Link{A: 1, B: 2, Cost: 1}, impl.Link{A: 0, B: 3, Cost: 1}),
		"descending at the end": with(4, impl.Link{A: 2, B: 3, Cost: 1}, impl.Link{A: 1, B: 2, Cost: 1}),
	}
	for _, cost := range oddNumbers {
		if cost < 1 || cost > impl.MaxCost {
			graphs["first link costs "+strconv.Itoa(cost)] = impl.Graph{Nodes: 2, Links: []impl.Link{{A: 0, B: 1, Cost: cost}}}
			graphs["last link costs "+strconv.Itoa(cost)] = with(3, impl.Link{A: 1, B: 2, Cost: cost})
		}
	}
	return graphs
}

// forValid runs a check on every valid graph. The checks of different graphs must share nothing that one of
// them changes: they run at the same time, because there are many, and only after the test itself has returned.
func forValid(t *testing.T, check func(t *testing.T, g impl.Graph)) {
	for name, g := range validGraphs() {
		t.Run(name, func(t *testing.T) {
			t.Parallel()
			check(t, g)
		})
	}
}

// forPairs runs a check on every two nodes, also equal ones, of every valid graph.
func forPairs(t *testing.T, check func(t *testing.T, g impl.Graph, from int, to int)) {
	forValid(t, func(t *testing.T, g impl.Graph) {
		for from := range g.Nodes {
			for to := range g.Nodes {
				check(t, g, from, to)
			}
		}
	})
}

// forInvalid runs a check on every invalid graph.
func forInvalid(t *testing.T, check func(t *testing.T, g impl.Graph)) {
	for name, g := range invalidGraphs() {
		t.Run(name, func(t *testing.T) { check(t, g) })
	}
}

// outside returns the odd numbers that are not indexes of count things.
func outside(count int) []int {
	return slices.DeleteFunc(slices.Clone(oddNumbers), func(n int) bool { return n >= 0 && n < count })
}

// sameGraph reports whether both graphs are equal; it makes no difference between no slice and an empty one.
func sameGraph(g impl.Graph, h impl.Graph) bool {
	return g.Nodes == h.Nodes && slices.Equal(g.Links, h.Links)
}

// isZero reports whether g is the zero value.
func isZero(g impl.Graph) bool {
	return sameGraph(g, impl.Graph{})
}

// linkBetween is the index of the link between two nodes, found by looking at every link.
func linkBetween(g impl.Graph, a int, b int) int {
	return slices.IndexFunc(g.Links, func(l impl.Link) bool {
		return l.A == a && l.B == b || l.A == b && l.B == a
	})
}

// leastCosts are the distances of all pairs of nodes, found by allowing one more node in between at a time.
func leastCosts(g impl.Graph) [][]int {
	const none = math.MaxInt / 4
	costs := make([][]int, g.Nodes)
	for a := range costs {
		costs[a] = slices.Repeat([]int{none}, g.Nodes)
		costs[a][a] = 0
	}
	for _, l := range g.Links {
		costs[l.A][l.B], costs[l.B][l.A] = l.Cost, l.Cost
	}
	for m := range costs {
		for a := range costs {
			for b := range costs {
				costs[a][b] = min(costs[a][b], costs[a][m]+costs[m][b])
			}
		}
	}
	for _, row := range costs {
		for i, c := range row {
			if c >= none {
				row[i] = -1
			}
		}
	}
	return costs
}

// reachOf is the ascending list of the nodes that node n reaches, by leastCosts.
func reachOf(g impl.Graph, n int) []int {
	list := []int{}
	for to, cost := range leastCosts(g)[n] {
		if cost != -1 {
			list = append(list, to)
		}
	}
	return list
}

// leastPaths are all shortest paths between two nodes, ascending: those of all paths
// without a node that occurs twice whose cost is the least one.
func leastPaths(g impl.Graph, from int, to int) [][]int {
	paths := [][]int{}
	least := leastCosts(g)[from][to]
	var extend func(path []int, cost int)
	extend = func(path []int, cost int) {
		last := path[len(path)-1]
		if last == to && cost == least {
			paths = append(paths, slices.Clone(path))
		}
		for next := range g.Nodes {
			link := linkBetween(g, last, next)
			if link != -1 && !slices.Contains(path, next) && cost+g.Links[link].Cost <= least {
				extend(append(path, next), cost+g.Links[link].Cost)
			}
		}
	}
	extend([]int{from}, 0)
	return paths
}

// crosses reports whether two nodes follow each other in a path, in either order.
func crosses(path []int, l impl.Link) bool {
	for i := 1; i < len(path); i++ {
		if path[i-1] == l.A && path[i] == l.B || path[i-1] == l.B && path[i] == l.A {
			return true
		}
	}
	return false
}

// guarded returns g with spare capacity behind its links, and a function that reports
// whether links and spare capacity are still what they were.
func guarded(g impl.Graph) (impl.Graph, func() bool) {
	memory := append(slices.Clone(g.Links), impl.Link{A: -7, B: -8, Cost: -9}, impl.Link{A: -10, B: -11, Cost: -12})
	before := slices.Clone(memory)
	g.Links = memory[:len(g.Links)]
	return g, func() bool { return slices.Equal(memory, before) }
}

// spoil overwrites a slice with all of its capacity, which shows whether it shares memory.
func spoil[T any](list []T, with T) {
	list = list[:cap(list)]
	for i := range list {
		list[i] = with
	}
}
