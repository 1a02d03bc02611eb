package tests

import (
	"slices"
	"testing"

	"loop.example/linkstaterouting/impl"
)

func TestGraphLimits(t *testing.T) {
	if impl.MaxNodes != 8 || impl.MaxLinks != 14 || impl.MaxCost != 20 {
		t.Errorf("limits are %d, %d, %d", impl.MaxNodes, impl.MaxLinks, impl.MaxCost)
	}
}

func TestGraphValidAccepts(t *testing.T) {
	forValid(t, func(t *testing.T, g impl.Graph) {
		if !impl.GraphValid(g) {
			t.Errorf("GraphValid rejects %v", g)
		}
	})
	for cost := 1; cost <= 20; cost++ {
		if g := (impl.Graph{Nodes: 2, Links: []impl.Link{{A: 0, B: 1, Cost: cost}}}); !impl.GraphValid(g) {
			t.Errorf("GraphValid rejects the cost %d", cost)
		}
	}
	for nodes := 1; nodes <= 8; nodes++ {
		if !impl.GraphValid(impl.Graph{Nodes: nodes}) {
			t.Errorf("GraphValid rejects %d nodes", nodes)
		}
	}
	if g := fullGraph(); g.Nodes != 8 || len(g.Links) != 14 {
		t.Errorf("the full graph is %v", g)
	}
}

func TestGraphValidRejects(t *testing.T) {
	forInvalid(t, func(t *testing.T, g impl.Graph) {
		if impl.GraphValid(g) {
			t.Errorf("GraphValid accepts %v", g)
		}
	})
	if impl.GraphValid(impl.Graph{Nodes: 2, Links: make([]impl.Link, 1<<20)}) {
		t.Error("GraphValid accepts a million links")
	}
}

// Promise 1.
func TestGraphLinkHasBothOrders(t *testing.T) {
	forValid(t, func(t *testing.T, g impl.Graph) {
		for _, a := range append([]int{2, 3, 4, 5, 6}, oddNumbers...) {
			for _, b := range append([]int{2, 3, 4, 5, 6}, oddNumbers...) {
				got := impl.GraphLink(g, a, b)
				if got != linkBetween(g, a, b) || got != impl.GraphLink(g, b, a) {
					t.Errorf("GraphLink(%v, %d, %d) is %d", g, a, b, got)
				}
			}
		}
	})
}

func TestGraphLinkOfInvalidGraph(t *testing.T) {
	forInvalid(t, func(t *testing.T, g impl.Graph) {
		for a := -1; a <= 8; a++ {
			for b := -1; b <= 8; b++ {
				if got := impl.GraphLink(g, a, b); got != -1 {
					t.Errorf("GraphLink(%v, %d, %d) is %d", g, a, b, got)
				}
			}
		}
	})
}

// Promise 2.
func TestGraphNeighboursAreThoseWithLinks(t *testing.T) {
	forValid(t, func(t *testing.T, g impl.Graph) {
		for n := range g.Nodes {
			want := []int{}
			for m := range g.Nodes {
				if impl.GraphLink(g, n, m) != -1 {
					want = append(want, m)
				}
			}
			if got := impl.GraphNeighbours(g, n); !slices.Equal(got, want) {
				t.Errorf("GraphNeighbours(%v, %d) is %v", g, n, got)
			}
		}
	})
}

func TestGraphNeighboursByHand(t *testing.T) {
	want := [][]int{{1, 4}, {0, 2, 4}, {1, 3}, {2, 4}, {0, 1, 3}}
	for n, list := range want {
		if got := impl.GraphNeighbours(square(), n); !slices.Equal(got, list) {
			t.Errorf("the neighbours of %d are %v", n, got)
		}
	}
	for n := range impl.MaxNodes {
		if got := impl.GraphNeighbours(impl.Graph{Nodes: impl.MaxNodes}, n); len(got) != 0 {
			t.Errorf("without links, the neighbours of %d are %v", n, got)
		}
	}
}

// Promise 3.
func TestGraphNeighboursAddUpToLinks(t *testing.T) {
	forValid(t, func(t *testing.T, g impl.Graph) {
		sum := 0
		for n := range g.Nodes {
			sum += len(impl.GraphNeighbours(g, n))
		}
		if sum != 2*len(g.Links) {
			t.Errorf("%v has %d neighbours", g, sum)
		}
	})
}

func TestGraphNeighboursInvalid(t *testing.T) {
	forValid(t, func(t *testing.T, g impl.Graph) {
		for _, n := range outside(g.Nodes) {
			if got := impl.GraphNeighbours(g, n); len(got) != 0 {
				t.Errorf("GraphNeighbours(%v, %d) is %v", g, n, got)
			}
		}
	})
	forInvalid(t, func(t *testing.T, g impl.Graph) {
		for n := -1; n <= 8; n++ {
			if got := impl.GraphNeighbours(g, n); len(got) != 0 {
				t.Errorf("GraphNeighbours(%v, %d) is %v", g, n, got)
			}
		}
	})
}

// Promise 4.
func TestGraphWithoutRemovesOneLink(t *testing.T) {
	forValid(t, func(t *testing.T, g impl.Graph) {
		for i, l := range g.Links {
			got, ok := impl.GraphWithout(g, i)
			if !ok || !impl.GraphValid(got) || got.Nodes != g.Nodes || len(got.Links) != len(g.Links)-1 {
				t.Fatalf("GraphWithout(%v, %d) is %v, %v", g, i, got, ok)
			}
			if impl.GraphLink(got, l.A, l.B) != -1 {
				t.Errorf("GraphWithout(%v, %d) has the link", g, i)
			}
			for _, other := range g.Links {
				if other != l && !slices.Contains(got.Links, other) {
					t.Errorf("GraphWithout(%v, %d) has lost %v", g, i, other)
				}
			}
		}
	})
}

// Promise 5.
func TestGraphWithoutTwoLinksInEitherOrder(t *testing.T) {
	forValid(t, func(t *testing.T, g impl.Graph) {
		for i := range g.Links {
			for j := range i {
				first, ok1 := impl.GraphWithout(g, i)
				first, ok2 := impl.GraphWithout(first, j)
				second, ok3 := impl.GraphWithout(g, j)
				second, ok4 := impl.GraphWithout(second, i-1)
				if !ok1 || !ok2 || !ok3 || !ok4 || !sameGraph(first, second) || len(first.Links) != len(g.Links)-2 {
					t.Errorf("without %d and %d, %v is %v and %v", i, j, g, first, second)
				}
			}
		}
	})
}

func TestGraphWithoutInvalid(t *testing.T) {
	forValid(t, func(t *testing.T, g impl.Graph) {
		for _, link := range outside(len(g.Links)) {
			if got, ok := impl.GraphWithout(g, link); ok || !isZero(got) {
				t.Errorf("GraphWithout(%v, %d) is %v, %v", g, link, got, ok)
			}
		}
	})
	forInvalid(t, func(t *testing.T, g impl.Graph) {
		for link := -1; link <= len(g.Links); link++ {
			if got, ok := impl.GraphWithout(g, link); ok || !isZero(got) {
				t.Errorf("GraphWithout(%v, %d) is %v, %v", g, link, got, ok)
			}
		}
	})
}

// Promise 6.
func TestGraphIsolateRemovesLinksOfOneNode(t *testing.T) {
	forValid(t, func(t *testing.T, g impl.Graph) {
		for n := range g.Nodes {
			want := impl.Graph{Nodes: g.Nodes}
			for _, l := range g.Links {
				if l.A != n && l.B != n {
					want.Links = append(want.Links, l)
				}
			}
			got, ok := impl.GraphIsolate(g, n)
			if !ok || !sameGraph(got, want) || len(impl.GraphNeighbours(got, n)) != 0 {
				t.Errorf("GraphIsolate(%v, %d) is %v, %v", g, n, got, ok)
			}
		}
	})
}

func TestGraphIsolateInvalid(t *testing.T) {
	forValid(t, func(t *testing.T, g impl.Graph) {
		for _, n := range outside(g.Nodes) {
			if got, ok := impl.GraphIsolate(g, n); ok || !isZero(got) {
				t.Errorf("GraphIsolate(%v, %d) is %v, %v", g, n, got, ok)
			}
		}
	})
	forInvalid(t, func(t *testing.T, g impl.Graph) {
		for n := -1; n <= 8; n++ {
			if got, ok := impl.GraphIsolate(g, n); ok || !isZero(got) {
				t.Errorf("GraphIsolate(%v, %d) is %v, %v", g, n, got, ok)
			}
		}
	})
}

// Promise 7.
func TestGraphCostChangesOneCost(t *testing.T) {
	forValid(t, func(t *testing.T, g impl.Graph) {
		for i, l := range g.Links {
			for cost := 1; cost <= impl.MaxCost; cost++ {
				want := impl.Graph{Nodes: g.Nodes, Links: slices.Clone(g.Links)}
				want.Links[i] = impl.Link{A: l.A, B: l.B, Cost: cost}
				got, ok := impl.GraphCost(g, i, cost)
				if !ok || !sameGraph(got, want) {
					t.Fatalf("GraphCost(%v, %d, %d) is %v, %v", g, i, cost, got, ok)
				}
				if back, ok := impl.GraphCost(got, i, l.Cost); !ok || !sameGraph(back, g) {
					t.Errorf("GraphCost(%v, %d, %d) is %v, %v", got, i, l.Cost, back, ok)
				}
			}
		}
	})
}

func TestGraphCostInvalid(t *testing.T) {
	forValid(t, func(t *testing.T, g impl.Graph) {
		for _, link := range outside(len(g.Links)) {
			if got, ok := impl.GraphCost(g, link, 1); ok || !isZero(got) {
				t.Errorf("GraphCost(%v, %d, 1) is %v, %v", g, link, got, ok)
			}
		}
		for link := range g.Links {
			for _, cost := range append(outside(impl.MaxCost+1), 0) {
				if got, ok := impl.GraphCost(g, link, cost); ok || !isZero(got) {
					t.Errorf("GraphCost(%v, %d, %d) is %v, %v", g, link, cost, got, ok)
				}
			}
		}
	})
	// A new cost is no cure for a graph that is invalid by the cost of this very link.
	forInvalid(t, func(t *testing.T, g impl.Graph) {
		for link := -1; link <= len(g.Links); link++ {
			if got, ok := impl.GraphCost(g, link, 1); ok || !isZero(got) {
				t.Errorf("GraphCost(%v, %d, 1) is %v, %v", g, link, got, ok)
			}
		}
	})
}

// Promise 8.
func TestGraphReachHasNodeAndNeighbours(t *testing.T) {
	forValid(t, func(t *testing.T, g impl.Graph) {
		for n := range g.Nodes {
			got := impl.GraphReach(g, n)
			if !slices.Equal(got, reachOf(g, n)) || !slices.Contains(got, n) {
				t.Errorf("GraphReach(%v, %d) is %v", g, n, got)
			}
			for _, m := range got {
				for _, neighbour := range impl.GraphNeighbours(g, m) {
					if !slices.Contains(got, neighbour) {
						t.Errorf("GraphReach(%v, %d) is %v without %d", g, n, got, neighbour)
					}
				}
			}
		}
	})
}

func TestGraphReachByHand(t *testing.T) {
	parts := impl.Graph{Nodes: 6, Links: []impl.Link{{A: 0, B: 3, Cost: 1}, {A: 1, B: 4, Cost: 1}, {A: 2, B: 3, Cost: 1}}}
	want := [][]int{{0, 2, 3}, {1, 4}, {0, 2, 3}, {0, 2, 3}, {1, 4}, {5}}
	for n, list := range want {
		if got := impl.GraphReach(parts, n); !slices.Equal(got, list) {
			t.Errorf("node %d reaches %v", n, got)
		}
	}
	for n := range impl.MaxNodes {
		if got := impl.GraphReach(impl.Graph{Nodes: impl.MaxNodes}, n); !slices.Equal(got, []int{n}) {
			t.Errorf("without links, node %d reaches %v", n, got)
		}
	}
}

// Promise 9.
func TestGraphReachIsTheSameForAllReached(t *testing.T) {
	forValid(t, func(t *testing.T, g impl.Graph) {
		for n := range g.Nodes {
			list := impl.GraphReach(g, n)
			for _, m := range list {
				if got := impl.GraphReach(g, m); !slices.Equal(got, list) {
					t.Errorf("in %v, %d reaches %v and %d reaches %v", g, n, list, m, got)
				}
			}
		}
	})
}

// Promise 10.
func TestGraphReachWithoutLinkIsPart(t *testing.T) {
	forValid(t, func(t *testing.T, g impl.Graph) {
		for i := range g.Links {
			less, _ := impl.GraphWithout(g, i)
			for n := range g.Nodes {
				got, before := impl.GraphReach(less, n), impl.GraphReach(g, n)
				if !slices.Equal(got, reachOf(less, n)) {
					t.Errorf("GraphReach(%v, %d) is %v", less, n, got)
				}
				for _, m := range got {
					if !slices.Contains(before, m) {
						t.Errorf("without link %d, %d reaches %d in %v", i, n, m, g)
					}
				}
			}
		}
	})
}

// Promise 11.
func TestGraphReachOfIsolatedNode(t *testing.T) {
	forValid(t, func(t *testing.T, g impl.Graph) {
		for n := range g.Nodes {
			alone, _ := impl.GraphIsolate(g, n)
			if got := impl.GraphReach(alone, n); !slices.Equal(got, []int{n}) {
				t.Errorf("isolated in %v, %d reaches %v", g, n, got)
			}
		}
	})
}

func TestGraphReachInvalid(t *testing.T) {
	forValid(t, func(t *testing.T, g impl.Graph) {
		for _, n := range outside(g.Nodes) {
			if got := impl.GraphReach(g, n); len(got) != 0 {
				t.Errorf("GraphReach(%v, %d) is %v", g, n, got)
			}
		}
	})
	forInvalid(t, func(t *testing.T, g impl.Graph) {
		for n := -1; n <= 8; n++ {
			if got := impl.GraphReach(g, n); len(got) != 0 {
				t.Errorf("GraphReach(%v, %d) is %v", g, n, got)
			}
		}
	})
}

// The general rules: arguments are not changed, and no memory is shared with a result.
func TestGraphResultsShareNoMemory(t *testing.T) {
	forValid(t, func(t *testing.T, valid impl.Graph) {
		g, untouched := guarded(valid)
		junk := impl.Link{A: -1, B: -2, Cost: -3}
		for link := range valid.Links {
			less, _ := impl.GraphWithout(g, link)
			spoil(less.Links, junk)
			dear, _ := impl.GraphCost(g, link, impl.MaxCost)
			spoil(dear.Links, junk)
		}
		for n := range valid.Nodes {
			alone, _ := impl.GraphIsolate(g, n)
			spoil(alone.Links, junk)
			spoil(impl.GraphNeighbours(g, n), -1)
			spoil(impl.GraphReach(g, n), -1)
			impl.GraphLink(g, 0, n)
		}
		if !impl.GraphValid(g) || !untouched() {
			t.Errorf("%v has become %v", valid, g)
		}
	})
}

// The general rules: no state is kept between calls.
func TestGraphCallsAreIndependent(t *testing.T) {
	want := impl.GraphReach(square(), 2)
	spoil(impl.GraphReach(square(), 2), -1)
	spoil(impl.GraphReach(impl.Graph{Nodes: 3}, 2), -1)
	if got := impl.GraphReach(square(), 2); !slices.Equal(got, want) {
		t.Errorf("GraphReach is %v and then %v", want, got)
	}
}
