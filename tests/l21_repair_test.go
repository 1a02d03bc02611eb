package tests

import (
	"math"
	"slices"
	"testing"

	"loop.example/linkstaterouting/impl"
)

// failure is a link that fails, with what the lists of all shortest paths say of it for every two nodes.
type failure struct {
	g       impl.Graph
	link    int
	crossed [][]bool  // whether one of the shortest paths crosses the link
	detours [][][]int // the first one of the shortest paths without the link, if there is one
}

// failureOf finds out what a failing link does.
func failureOf(g impl.Graph, link int) failure {
	f, less := failure{g: g, link: link}, withoutLink(g, link)
	over := func(path []int) bool { return crosses(path, g.Links[link]) }
	for from := range g.Nodes {
		crossed, detours := []bool{}, [][]int{}
		for to := range g.Nodes {
			crossed = append(crossed, slices.ContainsFunc(leastPaths(g, from, to), over))
			detour := []int{}
			if paths := leastPaths(less, from, to); len(paths) > 0 {
				detour = paths[0]
			}
			detours = append(detours, detour)
		}
		f.crossed, f.detours = append(f.crossed, crossed), append(f.detours, detours)
	}
	return f
}

// safe are the nodes that are reached from a node, and by no shortest path over the link.
func (f failure) safe(from int) []int {
	return slices.DeleteFunc(reachOf(f.g, from), func(n int) bool { return f.crossed[from][n] })
}

// needed are the nodes to which one of the shortest paths crosses the link.
func (f failure) needed(from int) []int {
	return slices.DeleteFunc(reachOf(f.g, from), func(n int) bool { return !f.crossed[from][n] })
}

// stack are the labels of the repair: while there is a path left, the last safe node or the next link.
func (f failure) stack(from int, to int) []impl.Label {
	stack, path := []impl.Label{}, f.detours[from][to]
	for at := 0; at < len(path)-1; {
		next, label := at+1, overLink(linkBetween(f.g, path[at], path[at+1]))
		for later := at + 1; later < len(path); later++ {
			if !f.crossed[path[at]][path[later]] {
				next, label = later, toNode(path[later])
			}
		}
		stack, at = append(stack, label), next
	}
	return stack
}

// expectRepair checks the path and the labels of a repair, which exists.
func expectRepair(t *testing.T, g impl.Graph, from int, link int, to int, path []int, stack []impl.Label) {
	t.Helper()
	if got := impl.RepairPath(g, from, link, to); !slices.Equal(got, path) {
		t.Errorf("RepairPath(%v, %d, %d, %d) is %v, not %v", g, from, link, to, got, path)
	}
	if got, ok := impl.RepairStack(g, from, link, to); !ok || !slices.Equal(got, stack) {
		t.Errorf("RepairStack(%v, %d, %d, %d) is %v, %v, not %v", g, from, link, to, got, ok, stack)
	}
}

// expectNoRepair checks that there is no path and that there are no labels.
func expectNoRepair(t *testing.T, g impl.Graph, from int, link int, to int) {
	t.Helper()
	if got := impl.RepairPath(g, from, link, to); len(got) != 0 {
		t.Errorf("RepairPath(%v, %d, %d, %d) is %v", g, from, link, to, got)
	}
	if got, ok := impl.RepairStack(g, from, link, to); ok || len(got) != 0 {
		t.Errorf("RepairStack(%v, %d, %d, %d) is %v, %v", g, from, link, to, got, ok)
	}
}

// expectSides checks which nodes are safe from a node, and which ones need a repair.
func expectSides(t *testing.T, g impl.Graph, from int, link int, safe []int, needed []int) {
	t.Helper()
	if got := impl.RepairSafe(g, from, link); !slices.Equal(got, safe) {
		t.Errorf("RepairSafe(%v, %d, %d) is %v, not %v", g, from, link, got, safe)
	}
	if got := impl.RepairNeeded(g, from, link); !slices.Equal(got, needed) {
		t.Errorf("RepairNeeded(%v, %d, %d) is %v, not %v", g, from, link, got, needed)
	}
}

// forLinks runs a check on every node and every link of every valid graph.
func forLinks(t *testing.T, check func(t *testing.T, g impl.Graph, from int, link int)) {
	forValid(t, func(t *testing.T, g impl.Graph) {
		for link := range g.Links {
			for from := range g.Nodes {
				check(t, g, from, link)
			}
		}
	})
}

// forFailures runs a check on every link and every two nodes, also equal ones, of every valid graph.
func forFailures(t *testing.T, check func(t *testing.T, g impl.Graph, from int, link int, to int)) {
	forLinks(t, func(t *testing.T, g impl.Graph, from int, link int) {
		for to := range g.Nodes {
			check(t, g, from, link, to)
		}
	})
}

// forRepairs runs a check on those of the same arguments for which there is a repair, and on its labels.
func forRepairs(t *testing.T, check func(t *testing.T, g impl.Graph, from int, link int, to int, stack []impl.Label)) {
	forFailures(t, func(t *testing.T, g impl.Graph, from int, link int, to int) {
		if distance(withoutLink(g, link), from, to) == -1 {
			return
		}
		stack, ok := impl.RepairStack(g, from, link, to)
		if !ok {
			t.Fatalf("RepairStack(%v, %d, %d, %d) fails", g, from, link, to)
		}
		check(t, g, from, link, to, stack)
	})
}

func TestRepairsAgainstAllPaths(t *testing.T) {
	forValid(t, func(t *testing.T, g impl.Graph) {
		for link := range g.Links {
			f := failureOf(g, link)
			for from := range g.Nodes {
				expectSides(t, g, from, link, f.safe(from), f.needed(from))
				for to, path := range f.detours[from] {
					if len(path) > 0 {
						expectRepair(t, g, from, link, to, path, f.stack(from, to))
					} else {
						expectNoRepair(t, g, from, link, to)
					}
				}
			}
		}
	})
}

// gap has a link 0-1 that fails and a dear link 2-3, whose ends are cheaply linked with 0 and with 1.
func gap() impl.Graph {
	return impl.Graph{Nodes: 4, Links: []impl.Link{{A: 0, B: 1, Cost: 1}, {A: 0, B: 2, Cost: 1}, {A: 1, B: 3, Cost: 1}, {A: 2, B: 3, Cost: 20}}}
}

func TestSafeNodesByHand(t *testing.T) {
	for _, c := range []struct {
		name   string
		g      impl.Graph
		from   int
		link   int
		safe   []int
		needed []int
	}{
		{"one of two paths crosses", square(), 0, 0, []int{0, 4}, []int{1, 2, 3}},
		{"one of two paths crosses, from its other end", square(), 3, 0, []int{1, 2, 3, 4}, []int{0}},
		{"the other one of two paths crosses", square(), 0, 5, []int{0, 1, 2, 4}, []int{3}},
		{"from the other end of the link", square(), 1, 0, []int{1, 2, 3}, []int{0, 4}},
		{"the link in the middle of one of two paths", square(), 0, 2, []int{0, 1, 4}, []int{2, 3}},
		{"four of eight paths cross", layers(), 0, 0, []int{0, 2}, []int{1, 3, 4, 5, 6, 7}},
		{"two of eight paths cross", layers(), 0, 2, []int{0, 1, 2, 4}, []int{3, 5, 6, 7}},
		{"one of four paths crosses", detours(), 0, 2, []int{0, 1, 2}, []int{3}},
		{"three of four paths do not cross", detours(), 3, 2, []int{1, 2, 3}, []int{0}},
		{"two of the four paths cross", detours(), 0, 0, []int{0}, []int{1, 2, 3}},
		{"one of two ways round", ring(), 0, 0, []int{0, 5, 6, 7}, []int{1, 2, 3, 4}},
		{"a ring, away from the link", ring(), 4, 0, []int{1, 2, 3, 4, 5, 6, 7}, []int{0}},
		{"a link that no path uses", square(), 1, 3, []int{0, 1, 2, 3, 4}, nil},
		{"a link that no path uses, from elsewhere", square(), 2, 3, []int{0, 1, 2, 3, 4}, nil},
		{"a link that no path from here uses", detours(), 1, 2, []int{0, 1, 2, 3}, nil},
		{"a critical link", chain(), 2, 3, []int{0, 1, 2}, []int{3, 4, 5, 6}},
		{"a critical link, from the other end", chain(), 3, 3, []int{3, 4, 5, 6}, []int{0, 1, 2}},
		{"a critical link, from further away", chain(), 5, 3, []int{3, 4, 5, 6}, []int{0, 1, 2}},
		{"a critical link, the last but three of the most", bridge(), 6, 10, []int{5, 6, 7}, []int{0, 1, 2, 3, 4}},
		{"the only link", islands(), 0, 0, []int{0}, []int{1}},
		{"a link in another part", islands(), 0, 1, []int{0, 1}, nil},
		{"a node without links", islands(), 6, 2, []int{6}, nil},
		{"beside a dear link", gap(), 2, 0, []int{0, 2}, []int{1, 3}},
	} {
		t.Run(c.name, func(t *testing.T) { expectSides(t, c.g, c.from, c.link, c.safe, c.needed) })
	}
}

func TestRepairsByHand(t *testing.T) {
	before := impl.Graph{Nodes: 4, Links: []impl.Link{{A: 0, B: 1, Cost: 20}, {A: 0, B: 2, Cost: 1}, {A: 1, B: 3, Cost: 1}, {A: 2, B: 3, Cost: 1}}}
	round := withCost(ring(), 1, 20)
	for _, c := range []struct {
		name  string
		g     impl.Graph
		from  int
		link  int
		to    int
		path  []int
		stack []impl.Label
	}{
		{"the node itself", square(), 0, 0, 0, []int{0}, nil},
		{"the node itself, of a critical link", chain(), 3, 3, 3, []int{3}, nil},
		{"the node itself, without links", islands(), 6, 0, 6, []int{6}, nil},
		{"safe at once", square(), 0, 0, 4, []int{0, 4}, []impl.Label{toNode(4)}},
		{"safe at once, over several links", square(), 1, 0, 3, []int{1, 2, 3}, []impl.Label{toNode(3)}},
		{"safe at once, over several paths", layers(), 1, 0, 7, []int{1, 3, 5, 7}, []impl.Label{toNode(7)}},
		{"safe at once, over as many links as fit", round, 0, 1, 7, []int{0, 1, 2, 3, 4, 5, 6, 7}, []impl.Label{toNode(7)}},
		{"a link that no path uses, two paths", square(), 0, 3, 3, []int{0, 1, 2, 3}, []impl.Label{toNode(3)}},
		{"a link that no path uses, from one end to the other", square(), 1, 3, 4, []int{1, 0, 4}, []impl.Label{toNode(4)}},
		{"a link that only other nodes use", square(), 2, 0, 4, []int{2, 3, 4}, []impl.Label{toNode(4)}},
		{"a link in another part", islands(), 2, 0, 3, []int{2, 3}, []impl.Label{toNode(3)}},
		{"one of two paths is left", square(), 0, 0, 3, []int{0, 4, 3}, []impl.Label{toNode(4), toNode(3)}},
		{"one of two paths is left, the other way", square(), 3, 0, 0, []int{3, 4, 0}, []impl.Label{toNode(4), toNode(0)}},
		{"the first one of two paths is left", square(), 0, 5, 3, []int{0, 1, 2, 3}, []impl.Label{toNode(2), toNode(3)}},
		{"the three others of four paths are left", detours(), 0, 2, 3, []int{0, 1, 2, 3}, []impl.Label{toNode(2), toNode(3)}},
		{"four of eight paths are left", layers(), 0, 0, 7, []int{0, 2, 3, 5, 7}, []impl.Label{toNode(2), toNode(7)}},
		{"two nodes", square(), 0, 0, 2, []int{0, 4, 3, 2}, []impl.Label{toNode(4), toNode(2)}},
		{"two nodes, the first one after several links", square(), 2, 0, 0, []int{2, 3, 4, 0}, []impl.Label{toNode(4), toNode(0)}},
		{"three nodes", layers(), 0, 0, 1, []int{0, 2, 3, 1}, []impl.Label{toNode(2), toNode(3), toNode(1)}},
		{"three nodes, round the ring", ring(), 0, 0, 1, []int{0, 7, 6, 5, 4, 3, 2, 1}, []impl.Label{toNode(5), toNode(2), toNode(1)}},
		{"two nodes, round the ring", ring(), 7, 0, 1, []int{7, 6, 5, 4, 3, 2, 1}, []impl.Label{toNode(4), toNode(1)}},
		{"a link", square(), 1, 0, 4, []int{1, 4}, []impl.Label{overLink(3)}},
		{"a link, the other way", square(), 4, 0, 1, []int{4, 1}, []impl.Label{overLink(3)}},
		{"a link that has another number without the failed one", gap(), 2, 0, 3, []int{2, 3}, []impl.Label{overLink(3)}},
		{"a link before the failed one", before, 0, 3, 1, []int{0, 1}, []impl.Label{overLink(0)}},
		{"a node, then a link after the failed one", gap(), 1, 2, 3, []int{1, 0, 2, 3}, []impl.Label{toNode(2), overLink(3)}},
		{"a node, a link before the failed one, then a node", before, 2, 3, 3, []int{2, 0, 1, 3}, []impl.Label{toNode(0), overLink(0), toNode(3)}},
		{"a node, then a link", square(), 0, 0, 1, []int{0, 4, 1}, []impl.Label{toNode(4), overLink(3)}},
		{"a link, then a node", square(), 1, 0, 0, []int{1, 4, 0}, []impl.Label{overLink(3), toNode(0)}},
		{"a node, a link, then a node", gap(), 0, 0, 1, []int{0, 2, 3, 1}, []impl.Label{toNode(2), overLink(3), toNode(1)}},
		{"a node, a link, then a node, the other way", gap(), 1, 0, 0, []int{1, 3, 2, 0}, []impl.Label{toNode(3), overLink(3), toNode(0)}},
	} {
		t.Run(c.name, func(t *testing.T) { expectRepair(t, c.g, c.from, c.link, c.to, c.path, c.stack) })
	}
}

func TestMissingRepairsByHand(t *testing.T) {
	for _, c := range []struct {
		name string
		g    impl.Graph
		from int
		link int
		to   int
	}{
		{"a critical link, from one end to the other", chain(), 2, 3, 3},
		{"a critical link, the other way", chain(), 3, 3, 2},
		{"a critical link, from and to nodes further away", chain(), 1, 4, 6},
		{"the critical link of the most", bridge(), 4, 10, 5},
		{"the only link", islands(), 2, 1, 3},
		{"a node that is not reached with the link", islands(), 0, 0, 2},
		{"a node that is not reached with the link, which is in neither part", islands(), 0, 2, 3},
		{"a node without links", chain(), 0, 0, 7},
		{"from a node without links", chain(), 7, 0, 0},
		{"a node before the first one", square(), 0, 0, -1},
		{"a node after the last one", square(), 0, 0, 5},
		{"from a node before the first one", square(), -1, 0, 1},
		{"from a node after the last one", square(), 5, 0, 1},
		{"from a node that does not exist to itself", square(), 5, 0, 5},
		{"a link before the first one", square(), 0, -1, 1},
		{"a link after the last one", square(), 0, 6, 1},
		{"a link that does not exist, to the node itself", square(), 0, 6, 0},
		{"a link of a graph without links", impl.Graph{Nodes: 1}, 0, 0, 0},
		{"the zero value of a graph", impl.Graph{}, 0, 0, 0},
	} {
		t.Run(c.name, func(t *testing.T) { expectNoRepair(t, c.g, c.from, c.link, c.to) })
	}
}

// Promise 98.
func TestRepairSafeHasNodesForWhichTheLinkIsNotUsed(t *testing.T) {
	forLinks(t, func(t *testing.T, g impl.Graph, from int, link int) {
		want := slices.DeleteFunc(impl.GraphReach(g, from), func(n int) bool { return impl.LinkUsed(g, from, n, link) })
		got := impl.RepairSafe(g, from, link)
		if !slices.Equal(got, want) || !slices.Contains(got, from) {
			t.Errorf("RepairSafe(%v, %d, %d) is %v, not %v", g, from, link, got, want)
		}
	})
}

// Promise 99, and that nodes are not safe only if some of their shortest paths are lost without the link.
func TestSafeNodesStayAtTheirDistances(t *testing.T) {
	forLinks(t, func(t *testing.T, g impl.Graph, from int, link int) {
		less := withoutLink(g, link)
		before, after := impl.Distances(g, from), impl.Distances(less, from)
		safe := impl.RepairSafe(g, from, link)
		for _, n := range safe {
			if before[n] == -1 || after[n] != before[n] {
				t.Errorf("RepairSafe(%v, %d, %d) is %v, but the distances are %v without the link", g, from, link, safe, after)
			}
		}
		for _, n := range reachOf(g, from) {
			all := after[n] == before[n] && impl.PathCount(less, from, n) == impl.PathCount(g, from, n)
			if all != slices.Contains(safe, n) {
				t.Errorf("RepairSafe(%v, %d, %d) is %v, but for %d it is %v that no path is lost", g, from, link, safe, n, all)
			}
		}
	})
}

// Promise 100.
func TestReachedNodesAreEitherSafeOrNeedRepair(t *testing.T) {
	forLinks(t, func(t *testing.T, g impl.Graph, from int, link int) {
		safe, needed := impl.RepairSafe(g, from, link), impl.RepairNeeded(g, from, link)
		if !slices.IsSorted(safe) || !slices.IsSorted(needed) {
			t.Errorf("in %v, from %d without %d, RepairSafe is %v and RepairNeeded %v", g, from, link, safe, needed)
		}
		both := slices.Concat(safe, needed)
		slices.Sort(both) // A node that is in both occurs twice.
		if !slices.Equal(both, impl.GraphReach(g, from)) {
			t.Errorf("in %v, from %d without %d, RepairSafe is %v and RepairNeeded %v", g, from, link, safe, needed)
		}
	})
}

// Promise 101.
func TestRepairPathIsShortestWithoutTheLink(t *testing.T) {
	forFailures(t, func(t *testing.T, g impl.Graph, from int, link int, to int) {
		less, ok := impl.GraphWithout(g, link)
		path := impl.RepairPath(g, from, link, to)
		if want := impl.ShortestPath(less, from, to); !ok || !slices.Equal(path, want) {
			t.Errorf("RepairPath(%v, %d, %d, %d) is %v, not %v", g, from, link, to, path, want)
		}
		if crosses(path, g.Links[link]) {
			t.Errorf("RepairPath(%v, %d, %d, %d) is %v, over the link", g, from, link, to, path)
		}
	})
}

// Promise 102. With the link, the packet may take any shortest path to the node of a label.
func TestRepairStackLeadsToTheNodeWithoutTheLink(t *testing.T) {
	forRepairs(t, func(t *testing.T, g impl.Graph, from int, link int, to int, stack []impl.Label) {
		if end, ok := impl.StackEnd(g, from, stack); !ok || end != to {
			t.Errorf("RepairStack(%v, %d, %d, %d) is %v, which ends at %d, %v", g, from, link, to, stack, end, ok)
		}
		if trip, _ := tripOf(g, from, stack); impl.StackCrosses(g, from, stack, link) || slices.Contains(trip.links, link) {
			t.Errorf("RepairStack(%v, %d, %d, %d) is %v, which may cross the link", g, from, link, to, stack)
		}
	})
}

// Promise 103.
func TestRepairStackSucceedsIfThereIsAPath(t *testing.T) {
	forFailures(t, func(t *testing.T, g impl.Graph, from int, link int, to int) {
		less := withoutLink(g, link)
		reached := slices.Contains(reachOf(less, from), to)
		stack, ok := impl.RepairStack(g, from, link, to)
		if ok != reached || ok != slices.Contains(impl.GraphReach(less, from), to) {
			t.Errorf("RepairStack(%v, %d, %d, %d) is %v, %v", g, from, link, to, stack, ok)
		}
		if !ok && len(stack) != 0 {
			t.Errorf("RepairStack(%v, %d, %d, %d) fails with %v", g, from, link, to, stack)
		}
	})
}

// Promise 104. A node that is not safe has another stack, or none.
func TestRepairStackOfSafeNode(t *testing.T) {
	forLinks(t, func(t *testing.T, g impl.Graph, from int, link int) {
		safe := impl.RepairSafe(g, from, link)
		for to := range g.Nodes {
			stack, ok := impl.RepairStack(g, from, link, to)
			one := ok && slices.Equal(stack, []impl.Label{toNode(to)})
			if from != to && one != slices.Contains(safe, to) {
				t.Errorf("RepairStack(%v, %d, %d, %d) is %v, and the safe nodes are %v", g, from, link, to, stack, safe)
			}
		}
	})
}

// Promise 105.
func TestRepairStackIsNoLongerThanThePath(t *testing.T) {
	forRepairs(t, func(t *testing.T, g impl.Graph, from int, link int, to int, stack []impl.Label) {
		if path := impl.RepairPath(g, from, link, to); len(stack) > len(path)-1 || len(stack) > impl.MaxStack {
			t.Errorf("RepairStack(%v, %d, %d, %d) is %v, of the path %v", g, from, link, to, stack, path)
		}
	})
}

// Promise 106.
func TestRepairStackLeadsToTheNodeInTheGraphWithoutTheLink(t *testing.T) {
	forRepairs(t, func(t *testing.T, g impl.Graph, from int, link int, to int, stack []impl.Label) {
		rest := renumbered(stack, link)
		if end, ok := impl.StackEnd(withoutLink(g, link), from, rest); !ok || end != to {
			t.Errorf("RepairStack(%v, %d, %d, %d) is %v, and %v without the link, which ends at %d, %v", g, from, link, to, stack, rest, end, ok)
		}
	})
}

// Promise 107, and the chapter's words that the labels lead along RepairPath: that is why they cost just as much.
func TestRepairStackLeadsAlongThePath(t *testing.T) {
	forRepairs(t, func(t *testing.T, g impl.Graph, from int, link int, to int, stack []impl.Label) {
		less := withoutLink(g, link)
		if cost := impl.StackCost(g, from, stack); cost != distance(less, from, to) {
			t.Errorf("RepairStack(%v, %d, %d, %d) is %v, which costs %d", g, from, link, to, stack, cost)
		}
		path, there, after := impl.RepairPath(g, from, link, to), impl.StackPath(g, from, stack), impl.StackPath(less, from, renumbered(stack, link))
		if !slices.Equal(there, path) || !slices.Equal(after, path) {
			t.Errorf("RepairStack(%v, %d, %d, %d) is %v, which leads over %v, and later %v, not %v", g, from, link, to, stack, there, after, path)
		}
	})
}

// Promise 108, and that there is a label of a link only where no later node of the path is safe. No later label
// could have been taken at once: a label leads as far as it can.
func TestRepairStackHasSafeNodes(t *testing.T) {
	forRepairs(t, func(t *testing.T, g impl.Graph, from int, link int, to int, stack []impl.Label) {
		rest := impl.RepairPath(g, from, link, to)
		for i, label := range stack {
			n := rest[0]
			safe := impl.RepairSafe(g, n, link)
			rest = rest[slices.Index(rest, endOf(t, g, n, stack[i:i+1])):]
			if label.Kind == impl.LabelNode && !slices.Contains(safe, label.Arg) {
				t.Errorf("RepairStack(%v, %d, %d, %d) is %v, but from %d the safe nodes are %v", g, from, link, to, stack, n, safe)
			}
			unsafeFrom := 1
			if label.Kind == impl.LabelLink {
				unsafeFrom = 0
			}
			for _, later := range rest[unsafeFrom:] {
				if slices.Contains(safe, later) {
					t.Errorf("RepairStack(%v, %d, %d, %d) is %v, but from %d, %d is safe", g, from, link, to, stack, n, later)
				}
			}
		}
	})
}

// Promise 109, and the same for RepairSafe.
func TestRepairIsNeededBothWays(t *testing.T) {
	forValid(t, func(t *testing.T, g impl.Graph) {
		for link := range g.Links {
			safe, needed := [][]int{}, [][]int{}
			for n := range g.Nodes {
				safe = append(safe, impl.RepairSafe(g, n, link))
				needed = append(needed, impl.RepairNeeded(g, n, link))
			}
			for from := range g.Nodes {
				for to := range from {
					if slices.Contains(needed[from], to) != slices.Contains(needed[to], from) {
						t.Errorf("in %v without %d, RepairNeeded is %v from %d, and %v from %d", g, link, needed[from], from, needed[to], to)
					}
					if slices.Contains(safe[from], to) != slices.Contains(safe[to], from) {
						t.Errorf("in %v without %d, RepairSafe is %v from %d, and %v from %d", g, link, safe[from], from, safe[to], to)
					}
				}
			}
		}
	})
}

// Promise 110, in both directions.
func TestRepairStackBetweenTheEndsOfTheLink(t *testing.T) {
	forValid(t, func(t *testing.T, g impl.Graph) {
		critical := impl.Critical(g)
		for link, l := range g.Links {
			there, ok := impl.RepairStack(g, l.A, link, l.B)
			back, okBack := impl.RepairStack(g, l.B, link, l.A)
			if cut := slices.Contains(critical, link); ok == cut || okBack == cut {
				t.Errorf("in %v, it is %v that link %d is critical, and RepairStack is %v, %v and %v, %v", g, cut, link, there, ok, back, okBack)
			}
		}
	})
}

// Promise 111.
func TestRepairStackToTheNodeItself(t *testing.T) {
	forLinks(t, func(t *testing.T, g impl.Graph, from int, link int) {
		expectRepair(t, g, from, link, from, []int{from}, nil)
	})
}

// A link that no shortest path uses is not missed: what is reached stays safe, and each repair is the path from before.
func TestRepairsOfLinkThatIsNotUsed(t *testing.T) {
	forFailures(t, func(t *testing.T, g impl.Graph, from int, link int, to int) {
		if l := g.Links[link]; distance(g, l.A, l.B) == l.Cost {
			return
		}
		expectSides(t, g, from, link, reachOf(g, from), nil)
		if distance(g, from, to) == -1 {
			expectNoRepair(t, g, from, link, to)
		} else if from != to {
			expectRepair(t, g, from, link, to, impl.ShortestPath(g, from, to), []impl.Label{toNode(to)})
		}
	})
}

// Either nothing is needed from an end of the link or the other end is.
func TestRepairIsNeededFromTheEndsOfALinkThatIsUsed(t *testing.T) {
	forLinks(t, func(t *testing.T, g impl.Graph, from int, link int) {
		l := g.Links[link]
		if used := distance(g, l.A, l.B) == l.Cost; used != slices.Contains(impl.RepairNeeded(g, l.A, link), l.B) {
			t.Errorf("RepairNeeded(%v, %d, %d) is %v", g, l.A, link, impl.RepairNeeded(g, l.A, link))
		} else if !used && len(impl.RepairNeeded(g, from, link)) != 0 {
			t.Errorf("RepairNeeded(%v, %d, %d) is %v", g, from, link, impl.RepairNeeded(g, from, link))
		}
	})
}

// The other tests would show little if the repairs that they are run on were not of all sorts.
func TestRepairsAreOfAllSorts(t *testing.T) {
	sorts := map[string]int{}
	count := func(sort string, is bool) {
		if is {
			sorts[sort]++
		}
	}
	for _, g := range validGraphs() {
		for link, l := range g.Links {
			f := failureOf(g, link)
			unused := distance(g, l.A, l.B) < l.Cost
			for from := range g.Nodes {
				for to, path := range f.detours[from] {
					stack, paths := f.stack(from, to), leastPaths(g, from, to)
					over := len(slices.DeleteFunc(slices.Clone(paths), func(path []int) bool { return !crosses(path, l) }))
					kinds := ""
					for _, label := range stack {
						kinds += string(" NL"[label.Kind])
					}
					count("some paths cross, and some do not", over > 0 && over < len(paths))
					count("all of several paths cross", over > 1 && over == len(paths))
					count("no path uses the link", unused && from != to && len(paths) > 0)
					count("not reached with the link", len(paths) == 0)
					count("not reached without the link", len(paths) > 0 && len(path) == 0)
					count("from one end to the other, critical", from == l.A && to == l.B && len(path) == 0)
					count("from one end to the other, not critical", from == l.A && to == l.B && len(path) > 0)
					count("the node itself", from == to)
					count("safe at once", kinds == "N")
					count("safe at once, over several links", kinds == "N" && len(path) > 2)
					count("safe at once, over several paths", kinds == "N" && len(paths) > 1)
					count("several paths without the link, one label less than links", len(leastPaths(withoutLink(g, link), from, to)) > 1 && len(stack) > 1 && len(stack) == len(path)-2)
					for _, sort := range []string{"L", "NN", "NL", "LN", "NNN", "NLN"} {
						count(sort, kinds == sort)
					}
				}
			}
		}
	}
	for _, sort := range []string{"some paths cross, and some do not", "all of several paths cross", "no path uses the link", "not reached with the link", "not reached without the link",
		"from one end to the other, critical", "from one end to the other, not critical", "the node itself", "safe at once", "safe at once, over several links", "safe at once, over several paths",
		"several paths without the link, one label less than links", "L", "NN", "NL", "LN", "NNN", "NLN"} {
		if sorts[sort] < 100 {
			t.Errorf("there are %d repairs of the sort: %s", sorts[sort], sort)
		}
	}
}

// Of nodes that do not exist, one is enough. A node is not repaired to itself if it does not exist.
func TestRepairsOfNodesThatDoNotExist(t *testing.T) {
	forValid(t, func(t *testing.T, g impl.Graph) {
		for _, n := range outside(g.Nodes) {
			for link := -1; link <= len(g.Links); link++ {
				expectSides(t, g, n, link, nil, nil)
				expectNoRepair(t, g, n, link, n)
				for other := range g.Nodes {
					expectNoRepair(t, g, n, link, other)
					expectNoRepair(t, g, other, link, n)
				}
			}
		}
	})
}

// Without such a link the graph is the same, but nothing is safe and no path is returned, not even to the node itself.
func TestRepairsOfLinkThatDoesNotExist(t *testing.T) {
	forPairs(t, func(t *testing.T, g impl.Graph, from int, to int) {
		for _, link := range outside(len(g.Links)) {
			expectSides(t, g, from, link, nil, nil)
			expectNoRepair(t, g, from, link, to)
		}
	})
}

// A graph that is invalid by one link stays so even if this link is the one that fails.
func TestRepairsInInvalidGraph(t *testing.T) {
	forInvalid(t, func(t *testing.T, g impl.Graph) {
		for from := -1; from <= 9; from++ {
			for link := -1; link <= len(g.Links); link++ {
				expectSides(t, g, from, link, nil, nil)
				for to := -1; to <= 9; to++ {
					expectNoRepair(t, g, from, link, to)
				}
			}
		}
	})
	for _, nodes := range []int{math.MinInt, 0, impl.MaxNodes + 1, math.MaxInt} {
		expectSides(t, impl.Graph{Nodes: nodes}, 0, 0, nil, nil)
		expectNoRepair(t, impl.Graph{Nodes: nodes}, 0, 0, 0)
	}
	many := impl.Graph{Nodes: 2, Links: make([]impl.Link, 1<<20)}
	expectSides(t, many, 0, 0, nil, nil)
	expectNoRepair(t, many, 0, 0, 1)
}

// The general rules: arguments are not changed, and no memory is shared with a result.
func TestRepairsShareNoMemory(t *testing.T) {
	g, untouched := guarded(square())
	for range 2 {
		expectSides(t, g, 0, 0, []int{0, 4}, []int{1, 2, 3})
		expectRepair(t, g, 0, 0, 1, []int{0, 4, 1}, []impl.Label{toNode(4), overLink(3)})
		expectRepair(t, g, 0, 0, 0, []int{0}, nil)
		expectNoRepair(t, g, 0, 6, 1)
		spoil(impl.RepairSafe(g, 0, 0), -5)
		spoil(impl.RepairSafe(g, 0, 6), -5)
		spoil(impl.RepairNeeded(g, 0, 0), -5)
		spoil(impl.RepairNeeded(g, 0, 3), -5)
		for _, to := range []int{0, 1, 4, 5} {
			spoil(impl.RepairPath(g, 0, 0, to), -5)
			stack, _ := impl.RepairStack(g, 0, 0, to)
			spoil(stack, impl.Label{Kind: -5, Arg: -6})
		}
		if !untouched() {
			t.Errorf("the graph has become %v", g)
		}
	}
}
