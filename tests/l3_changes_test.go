package tests

import (
	"math"
	"slices"
	"testing"

	"loop.example/linkstaterouting/impl"
)

// costsNear returns costs to which a cost can change: the least and the greatest one, those next to it,
// one on the way to each limit, and the cost itself.
func costsNear(cost int) []int {
	list := []int{1, (cost + 1) / 2, cost - 1, cost, cost + 1, (cost + impl.MaxCost) / 2, impl.MaxCost}
	list = slices.DeleteFunc(list, func(c int) bool { return c < 1 || c > impl.MaxCost })
	slices.Sort(list)
	return slices.Compact(list)
}

// withCost is g with another cost of a link.
func withCost(g impl.Graph, link int, cost int) impl.Graph {
	links := slices.Clone(g.Links)
	links[link].Cost = cost
	return impl.Graph{Nodes: g.Nodes, Links: links}
}

// withoutLink is g without a link.
func withoutLink(g impl.Graph, link int) impl.Graph {
	return impl.Graph{Nodes: g.Nodes, Links: slices.Delete(slices.Clone(g.Links), link, link+1)}
}

// differences are the indexes at which the elements of two slices differ.
func differences(before []int, after []int) []int {
	list := []int{}
	for i := range before {
		if before[i] != after[i] {
			list = append(list, i)
		}
	}
	return list
}

// forChanges runs a check on changes of every link of every valid graph, also those that leave the cost as it is.
func forChanges(t *testing.T, check func(t *testing.T, g impl.Graph, link int, cost int)) {
	forValid(t, func(t *testing.T, g impl.Graph) {
		for link, l := range g.Links {
			for _, cost := range costsNear(l.Cost) {
				check(t, g, link, cost)
			}
		}
	})
}

// Promises 35 and 38, with distances that are found in another way.
func TestChangesAreThoseOfLeastCosts(t *testing.T) {
	forChanges(t, func(t *testing.T, g impl.Graph, link int, cost int) {
		before, after := leastCosts(g), leastCosts(withCost(g, link, cost))
		for from := range g.Nodes {
			if got := impl.DistancesAfter(g, from, link, cost); !slices.Equal(got, after[from]) {
				t.Errorf("DistancesAfter(%v, %d, %d, %d) is %v, not %v", g, from, link, cost, got, after[from])
			}
			want := differences(before[from], after[from])
			if got := impl.Affected(g, from, link, cost); !slices.Equal(got, want) {
				t.Errorf("Affected(%v, %d, %d, %d) is %v, not %v", g, from, link, cost, got, want)
			}
		}
	})
}

func TestChangesByHand(t *testing.T) {
	for _, c := range []struct {
		name             string
		g                impl.Graph
		from, link, cost int
		after            []int
		affected         []int
	}{
		{"greater, and node 3 has another path", square(), 0, 0, 9, []int{0, 9, 8, 6, 3}, []int{1, 2}},
		{"greater by one", square(), 0, 0, 3, []int{0, 3, 5, 6, 3}, []int{1, 2}},
		{"greater than any other path", square(), 0, 0, 20, []int{0, 9, 8, 6, 3}, []int{1, 2}},
		{"greater, seen from the other end", square(), 1, 0, 9, []int{9, 0, 2, 4, 6}, []int{0, 4}},
		{"greater, but on no shortest path", square(), 1, 3, 20, []int{2, 0, 2, 4, 5}, nil},
		{"smaller by one", square(), 0, 0, 1, []int{0, 1, 3, 5, 3}, []int{1, 2, 3}},
		{"smaller, for few nodes", square(), 4, 0, 1, []int{3, 4, 5, 3, 0}, []int{1}},
		{"smaller, and as dear as the shortest path", square(), 1, 3, 5, []int{2, 0, 2, 4, 5}, nil},
		{"smaller, and cheaper than the shortest path", square(), 1, 3, 4, []int{2, 0, 2, 4, 4}, []int{4}},
		{"smaller, for the first and last nodes", square(), 1, 3, 1, []int{2, 0, 2, 4, 1}, []int{4}},
		{"smaller, over a link that leads back", square(), 3, 3, 1, []int{6, 4, 2, 0, 3}, nil},
		{"the same", square(), 0, 0, 2, []int{0, 2, 4, 6, 3}, nil},
		{"the same, at the least cost", islands(), 0, 0, 1, []int{0, 1, -1, -1, -1, -1, -1}, nil},
		{"the same, at the greatest cost", detours(), 0, 2, 20, []int{0, 7, 8, 20}, nil},
		{"one of four paths is cheaper", detours(), 0, 2, 19, []int{0, 7, 8, 19}, []int{3}},
		{"one of eight paths is dearer", layers(), 0, 0, 6, []int{0, 6, 5, 10, 10, 15, 15, 20}, []int{1}},
		{"not reached", islands(), 0, 1, 20, []int{0, 1, -1, -1, -1, -1, -1}, nil},
		{"not reached, of a node without links", islands(), 6, 0, 20, []int{-1, -1, -1, -1, -1, -1, 0}, nil},
		{"reached beside others", islands(), 2, 1, 20, []int{-1, -1, 0, 20, -1, -1, -1}, []int{3}},
		{"from the least to the greatest cost", impl.Graph{Nodes: 2, Links: []impl.Link{{A: 0, B: 1, Cost: 1}}}, 0, 0, 20, []int{0, 20}, []int{1}},
		{"from the greatest to the least cost", impl.Graph{Nodes: 2, Links: []impl.Link{{A: 0, B: 1, Cost: 20}}}, 1, 0, 1, []int{1, 0}, []int{0}},
		{"the last of the most links", bridge(), 7, 13, 20, []int{19, 14, 11, 11, 10, 3, 5, 0}, []int{6}},
	} {
		t.Run(c.name, func(t *testing.T) {
			if got := impl.DistancesAfter(c.g, c.from, c.link, c.cost); !slices.Equal(got, c.after) {
				t.Errorf("DistancesAfter(%v, %d, %d, %d) is %v", c.g, c.from, c.link, c.cost, got)
			}
			if got := impl.Affected(c.g, c.from, c.link, c.cost); !slices.Equal(got, c.affected) {
				t.Errorf("Affected(%v, %d, %d, %d) is %v", c.g, c.from, c.link, c.cost, got)
			}
		})
	}
}

// Promise 35.
func TestDistancesAfterAreThoseOfGraphCost(t *testing.T) {
	forChanges(t, func(t *testing.T, g impl.Graph, link int, cost int) {
		changed, ok := impl.GraphCost(g, link, cost)
		for from := range g.Nodes {
			want := impl.Distances(changed, from)
			if got := impl.DistancesAfter(g, from, link, cost); !ok || len(got) != g.Nodes || !slices.Equal(got, want) {
				t.Errorf("DistancesAfter(%v, %d, %d, %d) is %v, not %v", g, from, link, cost, got, want)
			}
		}
	})
}

// Promises 36 and 37. Nodes that are not reached stay so.
func TestDistancesMoveWithTheCost(t *testing.T) {
	forChanges(t, func(t *testing.T, g impl.Graph, link int, cost int) {
		rise := cost - g.Links[link].Cost
		for from := range g.Nodes {
			before, after := impl.Distances(g, from), impl.DistancesAfter(g, from, link, cost)
			if len(after) != len(before) {
				t.Fatalf("DistancesAfter(%v, %d, %d, %d) is %v", g, from, link, cost, after)
			}
			for n := range before {
				moved := after[n] - before[n]
				if moved < min(rise, 0) || moved > max(rise, 0) || (before[n] == -1) != (after[n] == -1) {
					t.Errorf("DistancesAfter(%v, %d, %d, %d) is %v, and was %v", g, from, link, cost, after, before)
				}
			}
		}
	})
}

// Promise 38.
func TestAffectedAreThoseWhoseDistancesDiffer(t *testing.T) {
	forChanges(t, func(t *testing.T, g impl.Graph, link int, cost int) {
		for from := range g.Nodes {
			want := differences(impl.Distances(g, from), impl.DistancesAfter(g, from, link, cost))
			if got := impl.Affected(g, from, link, cost); !slices.Equal(got, want) {
				t.Errorf("Affected(%v, %d, %d, %d) is %v", g, from, link, cost, got)
			}
		}
	})
}

// Promise 39. A node that uses the link and has other shortest paths is affected only if all of them use it.
func TestAffectedByGreaterCostUseTheLink(t *testing.T) {
	forChanges(t, func(t *testing.T, g impl.Graph, link int, cost int) {
		if cost <= g.Links[link].Cost {
			return
		}
		for from := range g.Nodes {
			affected := impl.Affected(g, from, link, cost)
			for n := range g.Nodes {
				uses, is := impl.LinkUsed(g, from, n, link), slices.Contains(affected, n)
				if is && !uses {
					t.Errorf("Affected(%v, %d, %d, %d) has %d, which does not use the link", g, from, link, cost, n)
				}
				if uses && !is && impl.PathCount(g, from, n) == 1 {
					t.Errorf("Affected(%v, %d, %d, %d) lacks %d, which has no other path", g, from, link, cost, n)
				}
				if uses && is != (distance(withoutLink(g, link), from, n) != distance(g, from, n)) {
					t.Errorf("Affected(%v, %d, %d, %d) is %v, for node %d", g, from, link, cost, affected, n)
				}
			}
		}
	})
}

// Promise 40, of the cost that does not change.
func TestSameCostChangesNothing(t *testing.T) {
	forValid(t, func(t *testing.T, g impl.Graph) {
		for link, l := range g.Links {
			for from := range g.Nodes {
				if got := impl.Affected(g, from, link, l.Cost); len(got) != 0 {
					t.Errorf("Affected(%v, %d, %d, %d) is %v", g, from, link, l.Cost, got)
				}
				if got := impl.DistancesAfter(g, from, link, l.Cost); !slices.Equal(got, impl.Distances(g, from)) {
					t.Errorf("DistancesAfter(%v, %d, %d, %d) is %v", g, from, link, l.Cost, got)
				}
			}
		}
	})
}

// Promise 40, of the node itself.
func TestNodeItselfIsNeverAffected(t *testing.T) {
	forChanges(t, func(t *testing.T, g impl.Graph, link int, cost int) {
		for from := range g.Nodes {
			if got := impl.Affected(g, from, link, cost); slices.Contains(got, from) {
				t.Errorf("Affected(%v, %d, %d, %d) is %v", g, from, link, cost, got)
			}
		}
	})
}

// Promise 43.
func TestAffectedIsTheSameBothWays(t *testing.T) {
	forChanges(t, func(t *testing.T, g impl.Graph, link int, cost int) {
		affected := [][]int{}
		for from := range g.Nodes {
			affected = append(affected, impl.Affected(g, from, link, cost))
		}
		for a, list := range affected {
			for _, b := range list {
				if !slices.Contains(affected[b], a) {
					t.Errorf("in %v with cost %d of link %d, %d affects %d, but not the other way", g, cost, link, a, b)
				}
			}
		}
	})
}

// A change is undone by the previous cost, and affects the same nodes on the way back.
func TestChangeBackAffectsTheSame(t *testing.T) {
	forChanges(t, func(t *testing.T, g impl.Graph, link int, cost int) {
		changed := withCost(g, link, cost)
		for from := range g.Nodes {
			there, back := impl.Affected(g, from, link, cost), impl.Affected(changed, from, link, g.Links[link].Cost)
			if !slices.Equal(there, back) {
				t.Errorf("in %v, a change of link %d to %d affects %v, and back %v", g, link, cost, there, back)
			}
		}
	})
}

// expectNoChange checks what DistancesAfter and Affected return for invalid arguments.
func expectNoChange(t *testing.T, g impl.Graph, from int, link int, cost int) {
	t.Helper()
	if got := impl.DistancesAfter(g, from, link, cost); len(got) != 0 {
		t.Errorf("DistancesAfter(%v, %d, %d, %d) is %v", g, from, link, cost, got)
	}
	if got := impl.Affected(g, from, link, cost); len(got) != 0 {
		t.Errorf("Affected(%v, %d, %d, %d) is %v", g, from, link, cost, got)
	}
}

func TestChangesOfNodesAndLinksThatDoNotExist(t *testing.T) {
	forValid(t, func(t *testing.T, g impl.Graph) {
		for _, link := range outside(len(g.Links)) {
			for from := range g.Nodes {
				expectNoChange(t, g, from, link, 1)
				expectNoChange(t, g, from, link, impl.MaxCost)
			}
			expectNoChange(t, g, -1, link, 0)
		}
		for _, from := range outside(g.Nodes) {
			for link, l := range g.Links {
				for _, cost := range costsNear(l.Cost) {
					expectNoChange(t, g, from, link, cost)
				}
			}
		}
	})
}

func TestChangesToCostsOutOfRange(t *testing.T) {
	forValid(t, func(t *testing.T, g impl.Graph) {
		for link := range g.Links {
			for _, cost := range append(outside(impl.MaxCost+1), 0) {
				for from := range g.Nodes {
					expectNoChange(t, g, from, link, cost)
				}
			}
		}
	})
	for cost := 1; cost <= impl.MaxCost; cost++ { // All others are in the range.
		if got := impl.DistancesAfter(bridge(), 4, 10, cost); len(got) != 8 || got[5] != cost {
			t.Errorf("with the cost %d, DistancesAfter is %v", cost, got)
		}
	}
}

// A new cost is no cure for a graph that is invalid by the cost of this very link.
func TestChangesOfInvalidGraph(t *testing.T) {
	forInvalid(t, func(t *testing.T, g impl.Graph) {
		for from := -1; from <= 8; from++ {
			for link := -1; link <= len(g.Links); link++ {
				for _, cost := range []int{0, 1, 2, impl.MaxCost, impl.MaxCost + 1} {
					expectNoChange(t, g, from, link, cost)
				}
			}
		}
	})
	expectNoChange(t, impl.Graph{Nodes: 2, Links: make([]impl.Link, 1<<20)}, 0, 0, 1)
}

// Promise 41, with the nodes that are reached found in another way.
func TestCriticalCutsOffBothEnds(t *testing.T) {
	forValid(t, func(t *testing.T, g impl.Graph) {
		want := []int{}
		for link, l := range g.Links {
			less := withoutLink(g, link)
			cutA := len(reachOf(less, l.A)) < len(reachOf(g, l.A))
			cutB := len(reachOf(less, l.B)) < len(reachOf(g, l.B))
			if cutA != cutB {
				t.Fatalf("in %v, only one end of link %d reaches less without it", g, link)
			}
			if cutA {
				want = append(want, link)
			}
		}
		if got := impl.Critical(g); !slices.Equal(got, want) {
			t.Errorf("Critical(%v) is %v, not %v", g, got, want)
		}
	})
}

// Promise 41.
func TestCriticalMakesGraphReachSmaller(t *testing.T) {
	forValid(t, func(t *testing.T, g impl.Graph) {
		critical := impl.Critical(g)
		for link, l := range g.Links {
			less, _ := impl.GraphWithout(g, link)
			for _, end := range []int{l.A, l.B} {
				cut := len(impl.GraphReach(less, end)) < len(impl.GraphReach(g, end))
				if cut != slices.Contains(critical, link) {
					t.Errorf("Critical(%v) is %v, but for link %d it is %v that %d reaches less", g, critical, link, cut, end)
				}
			}
		}
	})
}

func TestCriticalByHand(t *testing.T) {
	for _, c := range []struct {
		name string
		g    impl.Graph
		want []int
	}{
		{"one node", impl.Graph{Nodes: 1}, nil},
		{"only nodes", impl.Graph{Nodes: 8}, nil},
		{"one link", impl.Graph{Nodes: 2, Links: []impl.Link{{A: 0, B: 1, Cost: 1}}}, []int{0}},
		{"one link, and a node is not reached", impl.Graph{Nodes: 3, Links: []impl.Link{{A: 0, B: 2, Cost: 20}}}, []int{0}},
		{"none in a square", square(), nil},
		{"none in a ring", ring(), nil},
		{"none of dear links", detours(), nil},
		{"none of the most links", fullGraph(), nil},
		{"none with paths of equal cost", layers(), nil},
		{"all of a line", validGraphs()["line"], []int{0, 1, 2, 3, 4, 5, 6}},
		{"all of a star", impl.Graph{Nodes: 4, Links: []impl.Link{{A: 0, B: 3, Cost: 2}, {A: 1, B: 3, Cost: 2}, {A: 2, B: 3, Cost: 2}}}, []int{0, 1, 2}},
		{"all of three parts", islands(), []int{0, 1, 2}},
		{"one of the most links", bridge(), []int{10}},
		{"two in a row", chain(), []int{3, 4}},
		{"one beside a triangle", impl.Graph{Nodes: 4, Links: []impl.Link{{A: 0, B: 1, Cost: 1}, {A: 1, B: 2, Cost: 1}, {A: 1, B: 3, Cost: 20}, {A: 2, B: 3, Cost: 1}}}, []int{0}},
	} {
		t.Run(c.name, func(t *testing.T) {
			if got := impl.Critical(c.g); !slices.Equal(got, c.want) {
				t.Errorf("Critical(%v) is %v", c.g, got)
			}
		})
	}
}

// Promise 42.
func TestCriticalLinkIsUsedToWhatItCutsOff(t *testing.T) {
	forValid(t, func(t *testing.T, g impl.Graph) {
		for _, link := range impl.Critical(g) {
			l, less := g.Links[link], withoutLink(g, link)
			for _, end := range []int{l.A, l.B} {
				cut := 0
				for _, n := range reachOf(g, end) {
					if slices.Contains(reachOf(less, end), n) {
						continue
					}
					cut++
					if !impl.LinkUsed(g, end, n, link) {
						t.Errorf("in %v, node %d does not use the critical link %d to %d", g, end, link, n)
					}
				}
				if cut == 0 {
					t.Errorf("in %v, the critical link %d cuts nothing off from %d", g, link, end)
				}
			}
		}
	})
}

// Promise 44. A connected graph has one link less than nodes exactly if all of its links are critical.
func TestCriticalHasFewerLinksThanNodes(t *testing.T) {
	forValid(t, func(t *testing.T, g impl.Graph) {
		got := impl.Critical(g)
		if len(got) >= g.Nodes {
			t.Errorf("Critical(%v) is %v", g, got)
		}
		if tree := len(reachOf(g, 0)) == g.Nodes && len(g.Links) == g.Nodes-1; tree && len(got) != g.Nodes-1 {
			t.Errorf("Critical(%v) is %v", g, got)
		}
	})
}

// Promise 45.
func TestCriticalStaysWithoutAnotherLink(t *testing.T) {
	forValid(t, func(t *testing.T, g impl.Graph) {
		for _, link := range impl.Critical(g) {
			for other := range g.Links {
				if other == link {
					continue
				}
				less, _ := impl.GraphWithout(g, other)
				renumbered := impl.GraphLink(less, g.Links[link].A, g.Links[link].B)
				if got := impl.Critical(less); !slices.Contains(got, renumbered) {
					t.Errorf("without link %d, Critical(%v) is %v without %d", other, less, got, renumbered)
				}
			}
		}
	})
}

// Which links are critical is no matter of their costs.
func TestCriticalIsTheSameForAllCosts(t *testing.T) {
	forChanges(t, func(t *testing.T, g impl.Graph, link int, cost int) {
		if before, after := impl.Critical(g), impl.Critical(withCost(g, link, cost)); !slices.Equal(before, after) {
			t.Errorf("Critical(%v) is %v, and %v with the cost %d of link %d", g, before, after, cost, link)
		}
	})
}

func TestCriticalOfInvalidGraph(t *testing.T) {
	forInvalid(t, func(t *testing.T, g impl.Graph) {
		if got := impl.Critical(g); len(got) != 0 {
			t.Errorf("Critical(%v) is %v", g, got)
		}
	})
	for _, nodes := range []int{math.MinInt, 0, impl.MaxNodes + 1, math.MaxInt} {
		if got := impl.Critical(impl.Graph{Nodes: nodes}); len(got) != 0 {
			t.Errorf("Critical with %d nodes is %v", nodes, got)
		}
	}
	if got := impl.Critical(impl.Graph{Nodes: 2, Links: make([]impl.Link, 1<<20)}); len(got) != 0 {
		t.Errorf("Critical with a million links is %v", got)
	}
}

// The general rules: arguments are not changed, and no memory is shared with a result.
func TestChangesShareNoMemory(t *testing.T) {
	g, untouched := guarded(square())
	spoil(impl.DistancesAfter(g, 0, 0, 9), -5)
	spoil(impl.DistancesAfter(g, 0, 0, 2), -5)
	spoil(impl.Affected(g, 0, 0, 9), -5)
	spoil(impl.Critical(g), -5)
	if !untouched() {
		t.Errorf("the graph has become %v", g)
	}
	if got := impl.DistancesAfter(g, 0, 0, 9); !slices.Equal(got, []int{0, 9, 8, 6, 3}) {
		t.Errorf("DistancesAfter is %v afterwards", got)
	}
	if got := impl.Affected(g, 0, 0, 9); !slices.Equal(got, []int{1, 2}) {
		t.Errorf("Affected is %v afterwards", got)
	}
	line, untouched := guarded(chain())
	spoil(impl.Critical(line), -5)
	if got := impl.Critical(line); !untouched() || !slices.Equal(got, []int{3, 4}) {
		t.Errorf("Critical(%v) is %v afterwards", line, got)
	}
}
