package tests

import (
	"math"
	"slices"
	"testing"

	"loop.example/linkstaterouting/impl"
)

// distance is the distance of node to from node from.
func distance(g impl.Graph, from int, to int) int {
	return impl.Distances(g, from)[to]
}

// costBetween is the cost of the link between two nodes.
func costBetween(g impl.Graph, a int, b int) int {
	return g.Links[impl.GraphLink(g, a, b)].Cost
}

func TestDistancesAreLeastCosts(t *testing.T) {
	forValid(t, func(t *testing.T, g impl.Graph) {
		for from, want := range leastCosts(g) {
			if got := impl.Distances(g, from); !slices.Equal(got, want) {
				t.Errorf("Distances(%v, %d) is %v", g, from, got)
			}
		}
	})
}

func TestDistancesByHand(t *testing.T) {
	if got := impl.Distances(square(), 0); !slices.Equal(got, []int{0, 2, 4, 6, 3}) {
		t.Errorf("the distances from 0 are %v", got)
	}
	if got := impl.Distances(impl.Graph{Nodes: 3, Links: []impl.Link{{A: 0, B: 2, Cost: 20}}}, 2); !slices.Equal(got, []int{20, -1, 0}) {
		t.Errorf("the distances from 2 are %v", got)
	}
	if got := impl.Distances(layers(), 7); !slices.Equal(got, []int{20, 15, 15, 10, 10, 5, 5, 0}) {
		t.Errorf("the distances from 7 are %v", got)
	}
}

// The longest path that the limits allow leads over 7 links of the greatest cost.
func TestDistancesAtTheLimits(t *testing.T) {
	line := impl.Graph{Nodes: 8}
	for a := range 7 {
		line.Links = append(line.Links, impl.Link{A: a, B: a + 1, Cost: 20})
	}
	if got := impl.Distances(line, 0); !slices.Equal(got, []int{0, 20, 40, 60, 80, 100, 120, 140}) {
		t.Errorf("the distances along the line are %v", got)
	}
	if got := impl.ShortestPath(line, 7, 0); !slices.Equal(got, []int{7, 6, 5, 4, 3, 2, 1, 0}) || impl.PathCount(line, 7, 0) != 1 {
		t.Errorf("the path along the line is %v", got)
	}
}

// Promise 12.
func TestDistanceIsLeastSumOverNeighbours(t *testing.T) {
	forPairs(t, func(t *testing.T, g impl.Graph, from int, to int) {
		distances := impl.Distances(g, from)
		if len(distances) != g.Nodes || distances[from] != 0 {
			t.Fatalf("Distances(%v, %d) is %v", g, from, distances)
		}
		if to == from || distances[to] == -1 {
			return
		}
		least := math.MaxInt
		for _, n := range impl.GraphNeighbours(g, to) {
			if distances[n] != -1 {
				least = min(least, distances[n]+costBetween(g, n, to))
			}
		}
		if distances[to] != least {
			t.Errorf("Distances(%v, %d) is %v, but %d for %d", g, from, distances, least, to)
		}
	})
}

// Promise 13.
func TestDistanceIsTheSameBothWays(t *testing.T) {
	forPairs(t, func(t *testing.T, g impl.Graph, a int, b int) {
		if there, back := distance(g, a, b), distance(g, b, a); there != back {
			t.Errorf("in %v, the distance of %d and %d is %d and back %d", g, a, b, there, back)
		}
	})
}

// Promise 14.
func TestDistanceIsAtMostThatOverAnotherNode(t *testing.T) {
	forPairs(t, func(t *testing.T, g impl.Graph, a int, c int) {
		first, second := impl.Distances(g, a), impl.Distances(g, c)
		for b := range g.Nodes {
			if first[b] != -1 && first[c] != -1 && first[b] > first[c]+second[b] {
				t.Errorf("in %v, the way from %d to %d is shorter over %d", g, a, b, c)
			}
		}
	})
}

// Promise 15.
func TestDistanceIsKnownIfReached(t *testing.T) {
	forPairs(t, func(t *testing.T, g impl.Graph, from int, to int) {
		reached := slices.Contains(impl.GraphReach(g, from), to)
		if got := distance(g, from, to); reached != (got != -1) || got < -1 {
			t.Errorf("in %v, the distance of %d from %d is %d", g, to, from, got)
		}
	})
}

// Promise 16.
func TestDistanceWithoutLinkIsNotSmaller(t *testing.T) {
	forValid(t, func(t *testing.T, g impl.Graph) {
		for link := range g.Links {
			less, _ := impl.GraphWithout(g, link)
			for from := range g.Nodes {
				before, after := impl.Distances(g, from), impl.Distances(less, from)
				for to, d := range after {
					if d != -1 && (before[to] == -1 || d < before[to]) {
						t.Errorf("in %v, the distances from %d are %v, and %v without link %d", g, from, before, after, link)
					}
				}
			}
		}
	})
}

// Promise 30.
func TestDistancesOfEndsDifferAtMostByCost(t *testing.T) {
	forValid(t, func(t *testing.T, g impl.Graph) {
		for from := range g.Nodes {
			d := impl.Distances(g, from)
			for _, l := range g.Links {
				a, b := d[l.A], d[l.B]
				if (a == -1) != (b == -1) || a-b > l.Cost || b-a > l.Cost {
					t.Errorf("in %v, the ends of %v are at %d and %d from %d", g, l, a, b, from)
				}
			}
		}
	})
}

func TestDistancesInvalid(t *testing.T) {
	forValid(t, func(t *testing.T, g impl.Graph) {
		for _, from := range outside(g.Nodes) {
			if got := impl.Distances(g, from); len(got) != 0 {
				t.Errorf("Distances(%v, %d) is %v", g, from, got)
			}
		}
	})
	forInvalid(t, func(t *testing.T, g impl.Graph) {
		for from := -1; from <= 8; from++ {
			if got := impl.Distances(g, from); len(got) != 0 {
				t.Errorf("Distances(%v, %d) is %v", g, from, got)
			}
		}
	})
}

// use is what the functions say of the shortest paths between two nodes.
type use struct {
	hops  []int // NextHops
	path  []int // ShortestPath
	count int   // PathCount
	links []int // those for which LinkUsed holds
	nodes []int // those for which NodeUsed holds
}

// useOf finds out the same from the list of all shortest paths.
func useOf(g impl.Graph, from int, to int) use {
	paths := leastPaths(g, from, to)
	u := use{count: len(paths)}
	if len(paths) > 0 {
		u.path = paths[0]
	}
	for link, l := range g.Links {
		if slices.ContainsFunc(paths, func(path []int) bool { return crosses(path, l) }) {
			u.links = append(u.links, link)
		}
	}
	for _, path := range paths {
		if len(path) > 1 {
			u.hops = append(u.hops, path[1])
		}
		u.nodes = append(u.nodes, path...)
	}
	slices.Sort(u.hops)
	slices.Sort(u.nodes)
	u.hops, u.nodes = slices.Compact(u.hops), slices.Compact(u.nodes)
	return u
}

// expectUse checks what the functions say of the shortest paths between two nodes.
func expectUse(t *testing.T, g impl.Graph, from int, to int, want use) {
	t.Helper()
	if got := impl.NextHops(g, from, to); !slices.Equal(got, want.hops) {
		t.Errorf("NextHops(%v, %d, %d) is %v", g, from, to, got)
	}
	if got := impl.ShortestPath(g, from, to); !slices.Equal(got, want.path) {
		t.Errorf("ShortestPath(%v, %d, %d) is %v", g, from, to, got)
	}
	if got := impl.PathCount(g, from, to); got != want.count {
		t.Errorf("PathCount(%v, %d, %d) is %d", g, from, to, got)
	}
	for link := range g.Links {
		if got := impl.LinkUsed(g, from, to, link); got != slices.Contains(want.links, link) {
			t.Errorf("LinkUsed(%v, %d, %d, %d) is %v", g, from, to, link, got)
		}
	}
	for n := range g.Nodes {
		if got := impl.NodeUsed(g, from, to, n); got != slices.Contains(want.nodes, n) {
			t.Errorf("NodeUsed(%v, %d, %d, %d) is %v", g, from, to, n, got)
		}
	}
}

func TestShortestPathsAreAllPathsOfLeastCost(t *testing.T) {
	forPairs(t, func(t *testing.T, g impl.Graph, from int, to int) {
		expectUse(t, g, from, to, useOf(g, from, to))
	})
}

func TestShortestPathsByHand(t *testing.T) {
	for _, c := range []struct {
		name     string
		g        impl.Graph
		from, to int
		want     use
	}{
		{"one node", impl.Graph{Nodes: 1}, 0, 0, use{path: []int{0}, count: 1, nodes: []int{0}}},
		{"equal nodes", square(), 2, 2, use{path: []int{2}, count: 1, nodes: []int{2}}},
		{"equal nodes without links", islands(), 6, 6, use{path: []int{6}, count: 1, nodes: []int{6}}},
		{"one link", square(), 4, 3, use{[]int{3}, []int{4, 3}, 1, []int{5}, []int{3, 4}}},
		{"link that is too dear", square(), 1, 4, use{[]int{0}, []int{1, 0, 4}, 1, []int{0, 1}, []int{0, 1, 4}}},
		{"two paths", square(), 0, 3, use{[]int{1, 4}, []int{0, 1, 2, 3}, 2, []int{0, 1, 2, 4, 5}, []int{0, 1, 2, 3, 4}}},
		{"two paths back", square(), 3, 0, use{[]int{2, 4}, []int{3, 2, 1, 0}, 2, []int{0, 1, 2, 4, 5}, []int{0, 1, 2, 3, 4}}},
		{"eight paths", layers(), 0, 7, use{[]int{1, 2}, []int{0, 1, 3, 5, 7}, 8, []int{0, 1, 2, 3, 4, 5, 6, 7, 8, 9, 10, 11}, []int{0, 1, 2, 3, 4, 5, 6, 7}}},
		{"eight paths back", layers(), 7, 0, use{[]int{5, 6}, []int{7, 5, 3, 1, 0}, 8, []int{0, 1, 2, 3, 4, 5, 6, 7, 8, 9, 10, 11}, []int{0, 1, 2, 3, 4, 5, 6, 7}}},
		{"four paths", layers(), 3, 4, use{[]int{1, 2, 5, 6}, []int{3, 1, 4}, 4, []int{2, 3, 4, 5, 6, 7, 8, 9}, []int{1, 2, 3, 4, 5, 6}}},
		{"link and detours", detours(), 0, 3, use{[]int{1, 2, 3}, []int{0, 1, 2, 3}, 4, []int{0, 1, 2, 3, 4, 5}, []int{0, 1, 2, 3}}},
		{"link and detours back", detours(), 3, 0, use{[]int{0, 1, 2}, []int{3, 0}, 4, []int{0, 1, 2, 3, 4, 5}, []int{0, 1, 2, 3}}},
		{"link and a detour", detours(), 1, 3, use{[]int{2, 3}, []int{1, 2, 3}, 2, []int{3, 4, 5}, []int{1, 2, 3}}},
		{"not reached", islands(), 2, 4, use{}},
		{"not reached without links", islands(), 6, 0, use{}},
	} {
		t.Run(c.name, func(t *testing.T) { expectUse(t, c.g, c.from, c.to, c.want) })
	}
}

// Promise 17.
func TestNextHopsAreNeighboursOnTheWay(t *testing.T) {
	forPairs(t, func(t *testing.T, g impl.Graph, from int, to int) {
		d := impl.Distances(g, to)
		want := []int{}
		for _, n := range impl.GraphNeighbours(g, from) {
			if d[n] != -1 && d[n]+costBetween(g, from, n) == d[from] {
				want = append(want, n)
			}
		}
		got := impl.NextHops(g, from, to)
		if !slices.Equal(got, want) {
			t.Errorf("NextHops(%v, %d, %d) is %v", g, from, to, got)
		}
		for _, hop := range got {
			if d[hop] >= d[from] {
				t.Errorf("NextHops(%v, %d, %d) has %d, which is not nearer", g, from, to, hop)
			}
		}
	})
}

// Promise 18.
func TestNextHopsAreEmptyAtTheEndOrIfNotReached(t *testing.T) {
	forPairs(t, func(t *testing.T, g impl.Graph, from int, to int) {
		none := from == to || !slices.Contains(reachOf(g, from), to)
		if got := impl.NextHops(g, from, to); none != (len(got) == 0) {
			t.Errorf("NextHops(%v, %d, %d) is %v", g, from, to, got)
		}
	})
}

// Promise 19.
func TestShortestPathCostsTheDistance(t *testing.T) {
	forPairs(t, func(t *testing.T, g impl.Graph, from int, to int) {
		path := impl.ShortestPath(g, from, to)
		if len(path) == 0 {
			return
		}
		if path[0] != from || path[len(path)-1] != to {
			t.Fatalf("ShortestPath(%v, %d, %d) is %v", g, from, to, path)
		}
		sum := 0
		for i := 1; i < len(path); i++ {
			if impl.GraphLink(g, path[i-1], path[i]) == -1 {
				t.Fatalf("ShortestPath(%v, %d, %d) is %v without a link", g, from, to, path)
			}
			sum += costBetween(g, path[i-1], path[i])
		}
		if sum != distance(g, from, to) {
			t.Errorf("ShortestPath(%v, %d, %d) is %v with cost %d", g, from, to, path, sum)
		}
	})
}

// Promise 20.
func TestShortestPathLeadsOverSmallestNextHops(t *testing.T) {
	forPairs(t, func(t *testing.T, g impl.Graph, from int, to int) {
		path := impl.ShortestPath(g, from, to)
		for i := 1; i < len(path); i++ {
			hops := impl.NextHops(g, path[i-1], to)
			if slices.Contains(path[:i], path[i]) || len(hops) == 0 || path[i] != slices.Min(hops) {
				t.Errorf("ShortestPath(%v, %d, %d) is %v, with next hops %v", g, from, to, path, hops)
			}
		}
	})
}

// Promise 21.
func TestShortestPathFromItsNodesIsItsRest(t *testing.T) {
	forPairs(t, func(t *testing.T, g impl.Graph, from int, to int) {
		path := impl.ShortestPath(g, from, to)
		for i, n := range path {
			if got := impl.ShortestPath(g, n, to); !slices.Equal(got, path[i:]) {
				t.Errorf("in %v, the path from %d is %v, and from %d %v", g, from, path, n, got)
			}
		}
	})
}

// Promise 31. The end is reached exactly if there is a path: this makes emptiness mean something.
func TestShortestPathIsEmptyInBothDirections(t *testing.T) {
	forPairs(t, func(t *testing.T, g impl.Graph, from int, to int) {
		path, back := impl.ShortestPath(g, from, to), impl.ShortestPath(g, to, from)
		reached := slices.Contains(reachOf(g, from), to)
		if reached != (len(path) > 0) || reached != (len(back) > 0) {
			t.Fatalf("in %v, the paths of %d and %d are %v and %v", g, from, to, path, back)
		}
		if reached && (back[0] != to || back[len(back)-1] != from) {
			t.Errorf("ShortestPath(%v, %d, %d) is %v", g, to, from, back)
		}
	})
}

// Promise 22.
func TestPathCountIsSumOfThatOfNextHops(t *testing.T) {
	forPairs(t, func(t *testing.T, g impl.Graph, from int, to int) {
		want := 0
		if from == to {
			want = 1
		}
		for _, hop := range impl.NextHops(g, from, to) {
			want += impl.PathCount(g, hop, to)
		}
		if got := impl.PathCount(g, from, to); got != want {
			t.Errorf("PathCount(%v, %d, %d) is %d", g, from, to, got)
		}
	})
}

// Promise 23.
func TestPathCountIsTheSameBothWays(t *testing.T) {
	forPairs(t, func(t *testing.T, g impl.Graph, a int, b int) {
		if there, back := impl.PathCount(g, a, b), impl.PathCount(g, b, a); there != back {
			t.Errorf("in %v, %d paths lead from %d to %d and %d back", g, there, a, b, back)
		}
	})
}

// Promise 32.
func TestPathCountIsPositiveIfReached(t *testing.T) {
	forPairs(t, func(t *testing.T, g impl.Graph, from int, to int) {
		reached := slices.Contains(reachOf(g, from), to)
		if got := impl.PathCount(g, from, to); reached != (got > 0) || got < 0 {
			t.Errorf("PathCount(%v, %d, %d) is %d", g, from, to, got)
		}
	})
}

// Promise 24.
func TestLinkUsedIfItIsMissedWithoutIt(t *testing.T) {
	forPairs(t, func(t *testing.T, g impl.Graph, from int, to int) {
		before, count := distance(g, from, to), impl.PathCount(g, from, to)
		for link := range g.Links {
			less, _ := impl.GraphWithout(g, link)
			after := distance(less, from, to)
			missed := impl.PathCount(less, from, to) < count || after > before || after == -1
			want := before != -1 && missed
			if got := impl.LinkUsed(g, from, to, link); got != want {
				t.Errorf("LinkUsed(%v, %d, %d, %d) is %v", g, from, to, link, got)
			}
		}
	})
}

// Promises 25 and 28.
func TestShortestPathUsesItsLinksAndNodes(t *testing.T) {
	forPairs(t, func(t *testing.T, g impl.Graph, from int, to int) {
		path := impl.ShortestPath(g, from, to)
		for i, n := range path {
			if !impl.NodeUsed(g, from, to, n) {
				t.Errorf("NodeUsed(%v, %d, %d, %d) is false on %v", g, from, to, n, path)
			}
			if i > 0 && !impl.LinkUsed(g, from, to, impl.GraphLink(g, path[i-1], n)) {
				t.Errorf("in %v, the link before %d on %v is not used", g, n, path)
			}
		}
	})
}

// Promise 26.
func TestLinkUsedIsTheSameBothWays(t *testing.T) {
	forPairs(t, func(t *testing.T, g impl.Graph, a int, b int) {
		for link := range g.Links {
			if impl.LinkUsed(g, a, b, link) != impl.LinkUsed(g, b, a, link) {
				t.Errorf("in %v, only one way between %d and %d uses link %d", g, a, b, link)
			}
		}
	})
}

// Promise 33.
func TestLinkUsedBetweenItsOwnEnds(t *testing.T) {
	forValid(t, func(t *testing.T, g impl.Graph) {
		for link, l := range g.Links {
			want := distance(g, l.A, l.B) == l.Cost
			if impl.LinkUsed(g, l.A, l.B, link) != want || impl.LinkUsed(g, l.B, l.A, link) != want {
				t.Errorf("in %v, the use of link %d between its ends is not %v", g, link, want)
			}
		}
	})
}

// Promise 27.
func TestNodeUsedDividesTheDistance(t *testing.T) {
	forPairs(t, func(t *testing.T, g impl.Graph, from int, to int) {
		for n := range g.Nodes {
			if !impl.NodeUsed(g, from, to, n) {
				continue
			}
			d := impl.Distances(g, n)
			if d[from] == -1 || d[to] == -1 || distance(g, from, to) != d[from]+d[to] {
				t.Errorf("NodeUsed(%v, %d, %d, %d), with distances %v", g, from, to, n, d)
			}
		}
	})
}

// Promise 29.
func TestNodeThatIsNotUsedIsNotMissed(t *testing.T) {
	forPairs(t, func(t *testing.T, g impl.Graph, from int, to int) {
		for n := range g.Nodes {
			if n == from || n == to || impl.NodeUsed(g, from, to, n) {
				continue
			}
			less, _ := impl.GraphIsolate(g, n)
			if distance(less, from, to) != distance(g, from, to) || impl.PathCount(less, from, to) != impl.PathCount(g, from, to) {
				t.Errorf("in %v, isolating %d changes the paths between %d and %d", g, n, from, to)
			}
		}
	})
}

// Promise 34.
func TestNextHopsAndTheirLinksAreUsed(t *testing.T) {
	forPairs(t, func(t *testing.T, g impl.Graph, from int, to int) {
		for _, hop := range impl.NextHops(g, from, to) {
			if !impl.NodeUsed(g, from, to, hop) || !impl.LinkUsed(g, from, to, impl.GraphLink(g, from, hop)) {
				t.Errorf("in %v, the next hop %d from %d to %d is not used", g, hop, from, to)
			}
		}
	})
}

// Nodes that are not reached use nothing, not even themselves or a link elsewhere whose
// cost makes up for the two distances -1; and nothing elsewhere is used between reached nodes.
func TestNothingIsUsedAcrossParts(t *testing.T) {
	for elsewhere := 1; elsewhere <= impl.MaxCost; elsewhere++ {
		g := impl.Graph{Nodes: 6, Links: []impl.Link{{A: 0, B: 1, Cost: 1}, {A: 2, B: 3, Cost: 1}, {A: 4, B: 5, Cost: elsewhere}}}
		for link := range g.Links {
			if impl.LinkUsed(g, 0, 2, link) {
				t.Errorf("LinkUsed(%v, 0, 2, %d)", g, link)
			}
		}
		for n := range g.Nodes {
			if impl.NodeUsed(g, 0, 2, n) {
				t.Errorf("NodeUsed(%v, 0, 2, %d)", g, n)
			}
		}
		if impl.LinkUsed(g, 0, 1, 2) || impl.LinkUsed(g, 2, 3, 2) || impl.NodeUsed(g, 0, 1, 4) || impl.NodeUsed(g, 0, 0, 4) {
			t.Errorf("in %v, another part is used", g)
		}
	}
}

// expectNothing checks that all functions of two nodes return what they return for invalid arguments.
func expectNothing(t *testing.T, g impl.Graph, from int, to int) {
	t.Helper()
	if got := impl.NextHops(g, from, to); len(got) != 0 {
		t.Errorf("NextHops(%v, %d, %d) is %v", g, from, to, got)
	}
	if got := impl.ShortestPath(g, from, to); len(got) != 0 {
		t.Errorf("ShortestPath(%v, %d, %d) is %v", g, from, to, got)
	}
	if got := impl.PathCount(g, from, to); got != -1 {
		t.Errorf("PathCount(%v, %d, %d) is %d", g, from, to, got)
	}
	for link := -1; link <= len(g.Links); link++ {
		if impl.LinkUsed(g, from, to, link) {
			t.Errorf("LinkUsed(%v, %d, %d, %d)", g, from, to, link)
		}
	}
	for n := -1; n <= impl.MaxNodes; n++ {
		if impl.NodeUsed(g, from, to, n) {
			t.Errorf("NodeUsed(%v, %d, %d, %d)", g, from, to, n)
		}
	}
	if impl.NodeUsed(g, from, to, from) || impl.NodeUsed(g, from, to, to) {
		t.Errorf("NodeUsed(%v, %d, %d) of an end", g, from, to)
	}
}

func TestShortestPathsOfNodesThatDoNotExist(t *testing.T) {
	forValid(t, func(t *testing.T, g impl.Graph) {
		for _, n := range outside(g.Nodes) {
			expectNothing(t, g, n, n)
			for m := range g.Nodes {
				expectNothing(t, g, n, m)
				expectNothing(t, g, m, n)
				if impl.NodeUsed(g, 0, m, n) {
					t.Errorf("NodeUsed(%v, 0, %d, %d)", g, m, n)
				}
			}
		}
	})
}

func TestLinkUsedOfLinkThatDoesNotExist(t *testing.T) {
	forPairs(t, func(t *testing.T, g impl.Graph, from int, to int) {
		for _, link := range outside(len(g.Links)) {
			if impl.LinkUsed(g, from, to, link) {
				t.Errorf("LinkUsed(%v, %d, %d, %d)", g, from, to, link)
			}
		}
	})
}

func TestShortestPathsOfInvalidGraph(t *testing.T) {
	forInvalid(t, func(t *testing.T, g impl.Graph) {
		for from := -1; from <= 8; from++ {
			for to := -1; to <= 8; to++ {
				expectNothing(t, g, from, to)
			}
		}
	})
}

// The general rules: arguments are not changed, and no memory is shared with a result.
func TestShortestPathsShareNoMemory(t *testing.T) {
	g, untouched := guarded(square())
	spoil(impl.Distances(g, 1), -5)
	spoil(impl.NextHops(g, 0, 3), -5)
	spoil(impl.ShortestPath(g, 0, 3), -5)
	impl.PathCount(g, 0, 3)
	impl.LinkUsed(g, 0, 3, 5)
	impl.NodeUsed(g, 0, 3, 4)
	if !untouched() {
		t.Errorf("the graph has become %v", g)
	}
	if got := impl.Distances(g, 1); !slices.Equal(got, []int{2, 0, 2, 4, 5}) {
		t.Errorf("Distances is %v afterwards", got)
	}
	if got := impl.NextHops(g, 0, 3); !slices.Equal(got, []int{1, 4}) {
		t.Errorf("NextHops is %v afterwards", got)
	}
	if got := impl.ShortestPath(g, 0, 3); !slices.Equal(got, []int{0, 1, 2, 3}) {
		t.Errorf("ShortestPath is %v afterwards", got)
	}
}
