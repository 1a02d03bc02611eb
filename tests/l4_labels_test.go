package tests

import (
	"math"
	"math/rand"
	"slices"
	"testing"

	"loop.example/linkstaterouting/impl"
)

// toNode is a label of a node.
func toNode(n int) impl.Label { return impl.Label{Kind: impl.LabelNode, Arg: n} }

// overLink is a label of a link.
func overLink(i int) impl.Label { return impl.Label{Kind: impl.LabelLink, Arg: i} }

// trip is what the functions say of a stack that leads somewhere.
type trip struct {
	path   []int // StackPath, which ends at StackEnd
	cost   int   // StackCost
	links  []int // those for which StackCrosses holds
	unique bool  // StackUnique
}

// tripOf finds out the same from the lists of all shortest paths, and reports whether the stack leads somewhere.
func tripOf(g impl.Graph, from int, stack []impl.Label) (trip, bool) {
	all := trip{path: []int{from}, unique: true}
	for _, label := range stack {
		n := all.path[len(all.path)-1]
		paths := pathsOf(g, n, label)
		if len(paths) == 0 {
			return trip{}, false
		}
		all.unique = all.unique && len(paths) == 1
		all.path = append(all.path, paths[0][1:]...)
		for i, l := range g.Links {
			if slices.ContainsFunc(paths, func(path []int) bool { return crosses(path, l) }) {
				all.links = append(all.links, i)
			}
			if crosses(paths[0], l) { // No shortest path crosses a link twice.
				all.cost += l.Cost
			}
		}
	}
	slices.Sort(all.links)
	all.links = slices.Compact(all.links)
	return all, len(stack) <= 8
}

// pathsOf are all paths over which a label leads from node n, ascending.
func pathsOf(g impl.Graph, n int, label impl.Label) [][]int {
	switch {
	case label.Kind == 1 && label.Arg >= 0 && label.Arg < g.Nodes:
		return leastPaths(g, n, label.Arg)
	case label.Kind == 2 && label.Arg >= 0 && label.Arg < len(g.Links) && g.Links[label.Arg].A == n:
		return [][]int{{n, g.Links[label.Arg].B}}
	case label.Kind == 2 && label.Arg >= 0 && label.Arg < len(g.Links) && g.Links[label.Arg].B == n:
		return [][]int{{n, g.Links[label.Arg].A}}
	}
	return nil
}

// expectTrip checks what the functions say of a stack that leads somewhere.
func expectTrip(t *testing.T, g impl.Graph, from int, stack []impl.Label, want trip) {
	t.Helper()
	if got, ok := impl.StackEnd(g, from, stack); !ok || got != want.path[len(want.path)-1] {
		t.Errorf("StackEnd(%v, %d, %v) is %d, %v", g, from, stack, got, ok)
	}
	if got := impl.StackPath(g, from, stack); !slices.Equal(got, want.path) {
		t.Errorf("StackPath(%v, %d, %v) is %v, not %v", g, from, stack, got, want.path)
	}
	if got := impl.StackCost(g, from, stack); got != want.cost {
		t.Errorf("StackCost(%v, %d, %v) is %d, not %d", g, from, stack, got, want.cost)
	}
	for i := -1; i <= len(g.Links); i++ {
		if got := impl.StackCrosses(g, from, stack, i); got != slices.Contains(want.links, i) {
			t.Errorf("StackCrosses(%v, %d, %v, %d) is %v", g, from, stack, i, got)
		}
	}
	if got := impl.StackUnique(g, from, stack); got != want.unique {
		t.Errorf("StackUnique(%v, %d, %v) is %v", g, from, stack, got)
	}
}

// expectNowhere checks what the functions say of a stack that does not lead somewhere.
func expectNowhere(t *testing.T, g impl.Graph, from int, stack []impl.Label) {
	t.Helper()
	if got, ok := impl.StackEnd(g, from, stack); ok || got != 0 {
		t.Errorf("StackEnd(%v, %d, %v) is %d, %v", g, from, stack, got, ok)
	}
	if got := impl.StackPath(g, from, stack); len(got) != 0 {
		t.Errorf("StackPath(%v, %d, %v) is %v", g, from, stack, got)
	}
	if got := impl.StackCost(g, from, stack); got != -1 {
		t.Errorf("StackCost(%v, %d, %v) is %d", g, from, stack, got)
	}
	for i := -1; i <= len(g.Links); i++ {
		if impl.StackCrosses(g, from, stack, i) {
			t.Errorf("StackCrosses(%v, %d, %v, %d)", g, from, stack, i)
		}
	}
	if impl.StackUnique(g, from, stack) {
		t.Errorf("StackUnique(%v, %d, %v)", g, from, stack)
	}
}

// labelsOf are the labels that lead from node n: those of all nodes that it reaches, itself among them, and of its links.
func labelsOf(g impl.Graph, n int) []impl.Label {
	labels := []impl.Label{}
	for _, m := range reachOf(g, n) {
		labels = append(labels, toNode(m))
	}
	for i, l := range g.Links {
		if l.A == n || l.B == n {
			labels = append(labels, overLink(i))
		}
	}
	return labels
}

// randomStack returns a stack of so many labels that leads from a node somewhere, but for its length.
func randomStack(r *rand.Rand, g impl.Graph, from int, length int) []impl.Label {
	stack := []impl.Label{}
	for n := from; len(stack) < length; {
		labels := labelsOf(g, n)
		label := labels[r.Intn(len(labels))]
		paths := pathsOf(g, n, label)
		n = paths[0][len(paths[0])-1]
		stack = append(stack, label)
	}
	return stack
}

// start is a stack and the node from which it is used.
type start struct {
	from  int
	stack []impl.Label
}

// startsIn returns stacks in a graph, always the same ones: one of each length from no label to one more
// than fit, and some in which one label is any, and often cannot be used.
func startsIn(g impl.Graph) []start {
	r := rand.New(rand.NewSource(4))
	list := []start{}
	for length := range impl.MaxStack + 2 {
		from := r.Intn(g.Nodes)
		list = append(list, start{from, randomStack(r, g, from, length)})
	}
	for range 5 {
		from := r.Intn(g.Nodes)
		stack := randomStack(r, g, from, 1+r.Intn(impl.MaxStack))
		stack[r.Intn(len(stack))] = impl.Label{Kind: r.Intn(4), Arg: r.Intn(impl.MaxLinks+2) - 1}
		list = append(list, start{from, stack})
	}
	return list
}

// forStacks runs a check on stacks in every valid graph, also on those that do not lead somewhere.
func forStacks(t *testing.T, check func(t *testing.T, g impl.Graph, from int, stack []impl.Label)) {
	forValid(t, func(t *testing.T, g impl.Graph) {
		for _, s := range startsIn(g) {
			check(t, g, s.from, s.stack)
		}
	})
}

// forTrips runs a check on those of the same stacks that lead somewhere.
func forTrips(t *testing.T, check func(t *testing.T, g impl.Graph, from int, stack []impl.Label)) {
	forStacks(t, func(t *testing.T, g impl.Graph, from int, stack []impl.Label) {
		if _, ok := tripOf(g, from, stack); ok {
			check(t, g, from, stack)
		}
	})
}

// shortStacks are all stacks of at most two labels whose kinds and arguments are in the ranges of
// those that exist, or next to these.
func shortStacks(g impl.Graph) [][]impl.Label {
	labels := []impl.Label{}
	for kind := impl.LabelNode - 1; kind <= impl.LabelLink+1; kind++ {
		for arg := -1; arg <= max(g.Nodes, len(g.Links)); arg++ {
			labels = append(labels, impl.Label{Kind: kind, Arg: arg})
		}
	}
	stacks := [][]impl.Label{{}}
	for _, first := range labels {
		stacks = append(stacks, []impl.Label{first})
		for _, second := range labels {
			stacks = append(stacks, []impl.Label{first, second})
		}
	}
	return stacks
}

// endOf is the node at which a packet ends, which must lead somewhere.
func endOf(t *testing.T, g impl.Graph, from int, stack []impl.Label) int {
	t.Helper()
	end, ok := impl.StackEnd(g, from, stack)
	if !ok {
		t.Fatalf("StackEnd(%v, %d, %v) fails", g, from, stack)
	}
	return end
}

// expectStack checks a stack in the way in which it leads, or does not lead, by tripOf.
func expectStack(t *testing.T, g impl.Graph, from int, stack []impl.Label) {
	t.Helper()
	if want, ok := tripOf(g, from, stack); ok {
		expectTrip(t, g, from, stack, want)
	} else {
		expectNowhere(t, g, from, stack)
	}
}

func TestStackConstants(t *testing.T) {
	if impl.MaxStack != 8 || impl.LabelNode != 1 || impl.LabelLink != 2 {
		t.Errorf("MaxStack is %d, the kinds are %d and %d", impl.MaxStack, impl.LabelNode, impl.LabelLink)
	}
}

func TestStacksAgainstAllPaths(t *testing.T) {
	forStacks(t, expectStack)
}

func TestShortStacksAgainstAllPaths(t *testing.T) {
	for _, g := range []impl.Graph{{Nodes: 1}, square(), detours(), islands()} {
		for from := range g.Nodes {
			for _, stack := range shortStacks(g) {
				expectStack(t, g, from, stack)
			}
		}
	}
}

func TestStacksByHand(t *testing.T) {
	everyLink := []int{0, 1, 2, 3, 4, 5, 6, 7, 8, 9, 10, 11}
	for _, c := range []struct {
		name  string
		g     impl.Graph
		from  int
		stack []impl.Label
		want  trip
	}{
		{"no labels", square(), 2, nil, trip{[]int{2}, 0, nil, true}},
		{"an empty slice", square(), 2, []impl.Label{}, trip{[]int{2}, 0, nil, true}},
		{"no labels, one node", impl.Graph{Nodes: 1}, 0, nil, trip{[]int{0}, 0, nil, true}},
		{"the current node", square(), 2, []impl.Label{toNode(2)}, trip{[]int{2}, 0, nil, true}},
		{"the current node, one node", impl.Graph{Nodes: 1}, 0, []impl.Label{toNode(0)}, trip{[]int{0}, 0, nil, true}},
		{"the current node without links", islands(), 6, []impl.Label{toNode(6), toNode(6)}, trip{[]int{6}, 0, nil, true}},
		{"the current node, as often as fits", layers(), 3, slices.Repeat([]impl.Label{toNode(3)}, 8), trip{[]int{3}, 0, nil, true}},
		{"the current node on the way", square(), 0, []impl.Label{toNode(0), toNode(4), toNode(4), overLink(3), toNode(1)}, trip{[]int{0, 4, 1}, 9, []int{1, 3}, true}},
		{"a node", square(), 1, []impl.Label{toNode(4)}, trip{[]int{1, 0, 4}, 5, []int{0, 1}, true}},
		{"a link that is too dear", square(), 1, []impl.Label{overLink(3)}, trip{[]int{1, 4}, 6, []int{3}, true}},
		{"a link the other way", square(), 4, []impl.Label{overLink(3)}, trip{[]int{4, 1}, 6, []int{3}, true}},
		{"a node, then a link", square(), 0, []impl.Label{toNode(4), overLink(3)}, trip{[]int{0, 4, 1}, 9, []int{1, 3}, true}},
		{"a link, then a node", square(), 1, []impl.Label{overLink(3), toNode(1)}, trip{[]int{1, 4, 0, 1}, 11, []int{0, 1, 3}, true}},
		{"a link there and back, as often as fits", square(), 1, slices.Repeat([]impl.Label{overLink(3)}, 8), trip{[]int{1, 4, 1, 4, 1, 4, 1, 4, 1}, 48, []int{3}, true}},
		{"two paths", square(), 0, []impl.Label{toNode(3)}, trip{[]int{0, 1, 2, 3}, 6, []int{0, 1, 2, 4, 5}, false}},
		{"two paths back", square(), 3, []impl.Label{toNode(0)}, trip{[]int{3, 2, 1, 0}, 6, []int{0, 1, 2, 4, 5}, false}},
		{"two paths, then a link", square(), 0, []impl.Label{toNode(3), overLink(5)}, trip{[]int{0, 1, 2, 3, 4}, 9, []int{0, 1, 2, 4, 5}, false}},
		{"a link, then two paths", square(), 1, []impl.Label{overLink(0), toNode(3)}, trip{[]int{1, 0, 1, 2, 3}, 8, []int{0, 1, 2, 4, 5}, false}},
		{"one of two paths, by a node", square(), 0, []impl.Label{toNode(4), toNode(3)}, trip{[]int{0, 4, 3}, 6, []int{1, 5}, true}},
		{"one of two paths, by a link", square(), 0, []impl.Label{overLink(1), toNode(3)}, trip{[]int{0, 4, 3}, 6, []int{1, 5}, true}},
		{"eight paths", layers(), 0, []impl.Label{toNode(7)}, trip{[]int{0, 1, 3, 5, 7}, 20, everyLink, false}},
		{"eight paths there and back", layers(), 0, []impl.Label{toNode(7), toNode(0)}, trip{[]int{0, 1, 3, 5, 7, 5, 3, 1, 0}, 40, everyLink, false}},
		{"one of eight paths, by nodes", layers(), 0, []impl.Label{toNode(2), toNode(3), toNode(6), toNode(7)}, trip{[]int{0, 2, 3, 6, 7}, 20, []int{1, 4, 7, 11}, true}},
		{"one of eight paths, by links", layers(), 0, []impl.Label{overLink(0), overLink(2), overLink(6), overLink(10)}, trip{[]int{0, 1, 3, 5, 7}, 20, []int{0, 2, 6, 10}, true}},
		{"four paths", layers(), 3, []impl.Label{toNode(4)}, trip{[]int{3, 1, 4}, 10, []int{2, 3, 4, 5, 6, 7, 8, 9}, false}},
		{"a link of equal cost", detours(), 0, []impl.Label{overLink(2)}, trip{[]int{0, 3}, 20, []int{2}, true}},
		{"a link and detours of equal cost", detours(), 0, []impl.Label{toNode(3)}, trip{[]int{0, 1, 2, 3}, 20, []int{0, 1, 2, 3, 4, 5}, false}},
		{"one of three parts", islands(), 3, []impl.Label{toNode(2), overLink(1), overLink(1), toNode(3)}, trip{[]int{3, 2, 3, 2, 3}, 12, []int{1}, true}},
		{"the last link of the most", bridge(), 7, []impl.Label{overLink(13), overLink(11), overLink(10), toNode(1)}, trip{[]int{7, 6, 5, 4, 1}, 14, []int{6, 10, 11, 13}, true}},
	} {
		t.Run(c.name, func(t *testing.T) { expectTrip(t, c.g, c.from, c.stack, c.want) })
	}
}

// The dearest packet that the limits allow leads eight times over seven links of the greatest cost.
func TestStackAtTheLimits(t *testing.T) {
	line, want := impl.Graph{Nodes: 8}, trip{path: []int{0}, cost: 8 * 7 * 20, unique: true}
	for a := range 7 {
		line.Links = append(line.Links, impl.Link{A: a, B: a + 1, Cost: 20})
		want.links = append(want.links, a)
	}
	for range 4 {
		want.path = append(want.path, 1, 2, 3, 4, 5, 6, 7, 6, 5, 4, 3, 2, 1, 0)
	}
	stack := slices.Repeat([]impl.Label{toNode(7), toNode(0)}, 4)
	expectTrip(t, line, 0, stack, want)
	expectNowhere(t, line, 0, append(stack, toNode(7)))
}

func TestStacksThatLeadNowhere(t *testing.T) {
	unlabelled := impl.Label{}
	for _, c := range []struct {
		name  string
		g     impl.Graph
		from  int
		stack []impl.Label
	}{
		{"more labels of the current node than fit", square(), 0, slices.Repeat([]impl.Label{toNode(0)}, 9)},
		{"more labels of nodes than fit", square(), 0, []impl.Label{toNode(1), toNode(2), toNode(3), toNode(4), toNode(0), toNode(1), toNode(2), toNode(3), toNode(4)}},
		{"more labels of a link than fit", square(), 0, slices.Repeat([]impl.Label{overLink(0)}, 9)},
		{"a million labels", square(), 0, slices.Repeat([]impl.Label{toNode(0)}, 1<<20)},
		{"a node that is not reached", islands(), 0, []impl.Label{toNode(2)}},
		{"a node without links", islands(), 0, []impl.Label{toNode(6)}},
		{"from a node without links", islands(), 6, []impl.Label{toNode(0)}},
		{"a node that is not reached, at the end", islands(), 0, []impl.Label{toNode(1), overLink(0), toNode(2)}},
		{"a node that is not reached, at the beginning", islands(), 0, []impl.Label{toNode(2), toNode(0)}},
		{"a node that is not reached, in the middle", islands(), 0, []impl.Label{toNode(1), toNode(2), toNode(1)}},
		{"the node after the last one", square(), 0, []impl.Label{toNode(5)}},
		{"the node before the first one", square(), 0, []impl.Label{toNode(-1)}},
		{"a link elsewhere", square(), 0, []impl.Label{overLink(2)}},
		{"a link of the node before", square(), 0, []impl.Label{toNode(3), overLink(0)}},
		{"a link of the node after", square(), 0, []impl.Label{overLink(2), overLink(0)}},
		{"a link of a node on the way", square(), 0, []impl.Label{toNode(2), overLink(3)}},
		{"a link in another part", islands(), 0, []impl.Label{overLink(1)}},
		{"a link from a node without links", islands(), 6, []impl.Label{overLink(0)}},
		{"a link of a graph without links", impl.Graph{Nodes: 2}, 0, []impl.Label{overLink(0)}},
		{"the link after the last one", square(), 4, []impl.Label{overLink(6)}},
		{"the link before the first one", square(), 0, []impl.Label{overLink(-1)}},
		{"the zero value of a label", square(), 0, []impl.Label{unlabelled}},
		{"another kind, at the end", square(), 0, []impl.Label{toNode(1), {Kind: 3, Arg: 1}}},
		{"another kind, at the beginning", square(), 0, []impl.Label{{Kind: 3, Arg: 0}, toNode(1)}},
		{"another kind, in the middle", square(), 0, []impl.Label{toNode(1), unlabelled, toNode(1)}},
	} {
		t.Run(c.name, func(t *testing.T) { expectNowhere(t, c.g, c.from, c.stack) })
	}
}

// Promise 46.
func TestStackEndIsThatOfTheLastLabel(t *testing.T) {
	forTrips(t, func(t *testing.T, g impl.Graph, from int, stack []impl.Label) {
		end := endOf(t, g, from, stack)
		if len(stack) == 0 {
			if end != from {
				t.Errorf("StackEnd(%v, %d) without labels is %d", g, from, end)
			}
			return
		}
		switch last := stack[len(stack)-1]; last.Kind {
		case impl.LabelNode:
			if end != last.Arg {
				t.Errorf("StackEnd(%v, %d, %v) is %d", g, from, stack, end)
			}
		case impl.LabelLink:
			before := endOf(t, g, from, stack[:len(stack)-1])
			l := g.Links[last.Arg]
			if end != l.A && end != l.B || end == before || before != l.A && before != l.B {
				t.Errorf("StackEnd(%v, %d, %v) is %d, from %d over %v", g, from, stack, end, before, l)
			}
		default:
			t.Errorf("StackEnd(%v, %d, %v) uses another kind", g, from, stack)
		}
	})
}

// Promise 47, also for stacks of which one part fails. One with too many labels may have parts that lead somewhere.
func TestStackEndOfParts(t *testing.T) {
	forStacks(t, func(t *testing.T, g impl.Graph, from int, stack []impl.Label) {
		end, ok := impl.StackEnd(g, from, stack)
		for i := range len(stack) + 1 {
			if len(stack) > impl.MaxStack {
				return
			}
			rest, both := 0, false
			if middle, first := impl.StackEnd(g, from, stack[:i]); first {
				rest, both = impl.StackEnd(g, middle, stack[i:])
			}
			if end != rest || ok != both {
				t.Errorf("StackEnd(%v, %d, %v) is %d, %v, but %d, %v in two parts", g, from, stack, end, ok, rest, both)
			}
		}
	})
}

// Promise 48. Where there is no path, 49 says so.
func TestStackPathLeadsOverLinks(t *testing.T) {
	forStacks(t, func(t *testing.T, g impl.Graph, from int, stack []impl.Label) {
		path := impl.StackPath(g, from, stack)
		if len(path) == 0 {
			return
		}
		if path[0] != from || path[len(path)-1] != endOf(t, g, from, stack) {
			t.Errorf("StackPath(%v, %d, %v) is %v", g, from, stack, path)
		}
		for i := 1; i < len(path); i++ {
			if linkBetween(g, path[i-1], path[i]) == -1 {
				t.Errorf("StackPath(%v, %d, %v) is %v without a link", g, from, stack, path)
			}
		}
	})
}

// Promise 49.
func TestStackPathIsEmptyIfStackEndFails(t *testing.T) {
	forStacks(t, func(t *testing.T, g impl.Graph, from int, stack []impl.Label) {
		_, leads := tripOf(g, from, stack)
		_, ok := impl.StackEnd(g, from, stack)
		path, cost := impl.StackPath(g, from, stack), impl.StackCost(g, from, stack)
		if ok != leads || leads != (len(path) > 0) || leads != (cost != -1) || cost < -1 {
			t.Errorf("in %v, for %v from %d, StackEnd is %v, StackPath %v, StackCost %d", g, stack, from, ok, path, cost)
		}
	})
}

// Promise 50.
func TestStackCostIsThatOfStackPath(t *testing.T) {
	forTrips(t, func(t *testing.T, g impl.Graph, from int, stack []impl.Label) {
		path, sum := impl.StackPath(g, from, stack), 0
		for i := 1; i < len(path); i++ {
			sum += costBetween(g, path[i-1], path[i])
		}
		if got := impl.StackCost(g, from, stack); got != sum {
			t.Errorf("StackCost(%v, %d, %v) is %d, but %v costs %d", g, from, stack, got, path, sum)
		}
	})
}

// Promise 51, of any stack.
func TestStackCostIsAtLeastTheDistance(t *testing.T) {
	forTrips(t, func(t *testing.T, g impl.Graph, from int, stack []impl.Label) {
		if got := impl.StackCost(g, from, stack); got < distance(g, from, endOf(t, g, from, stack)) {
			t.Errorf("StackCost(%v, %d, %v) is %d", g, from, stack, got)
		}
	})
}

// Promise 51, of a single label of a node; and the other functions of it are those of the shortest paths.
func TestSingleLabelOfNode(t *testing.T) {
	forPairs(t, func(t *testing.T, g impl.Graph, from int, to int) {
		stack := []impl.Label{toNode(to)}
		if got := impl.StackCost(g, from, stack); got != distance(g, from, to) {
			t.Errorf("StackCost(%v, %d, %v) is %d", g, from, stack, got)
		}
		if got := impl.StackPath(g, from, stack); !slices.Equal(got, impl.ShortestPath(g, from, to)) {
			t.Errorf("StackPath(%v, %d, %v) is %v", g, from, stack, got)
		}
		if got := impl.StackUnique(g, from, stack); got != (impl.PathCount(g, from, to) == 1) {
			t.Errorf("StackUnique(%v, %d, %v) is %v", g, from, stack, got)
		}
		for i := range g.Links {
			if got := impl.StackCrosses(g, from, stack, i); got != impl.LinkUsed(g, from, to, i) {
				t.Errorf("StackCrosses(%v, %d, %v, %d) is %v", g, from, stack, i, got)
			}
		}
	})
}

// A single label of a link leads from each end to the other one, at the cost of the link, and from no other node.
func TestSingleLabelOfLink(t *testing.T) {
	forValid(t, func(t *testing.T, g impl.Graph) {
		for i, l := range g.Links {
			stack := []impl.Label{overLink(i)}
			expectTrip(t, g, l.A, stack, trip{[]int{l.A, l.B}, l.Cost, []int{i}, true})
			expectTrip(t, g, l.B, stack, trip{[]int{l.B, l.A}, l.Cost, []int{i}, true})
			for n := range g.Nodes {
				if n != l.A && n != l.B {
					expectNowhere(t, g, n, stack)
				}
			}
		}
	})
}

// Promise 52.
func TestStackCrossesTheLinksOfItsPath(t *testing.T) {
	forTrips(t, func(t *testing.T, g impl.Graph, from int, stack []impl.Label) {
		path := impl.StackPath(g, from, stack)
		for i := 1; i < len(path); i++ {
			if l := linkBetween(g, path[i-1], path[i]); !impl.StackCrosses(g, from, stack, l) {
				t.Errorf("StackCrosses(%v, %d, %v, %d) is false on %v", g, from, stack, l, path)
			}
		}
	})
}

// renumbered returns the stack for the graph without a link. The link itself has no number there.
func renumbered(stack []impl.Label, without int) []impl.Label {
	list := slices.Clone(stack)
	for i, label := range list {
		switch {
		case label.Kind == impl.LabelLink && label.Arg == without:
			list[i].Arg = -1
		case label.Kind == impl.LabelLink && label.Arg > without:
			list[i].Arg--
		}
	}
	return list
}

// Promise 53.
func TestStackIsTheSameWithoutLinkThatItDoesNotCross(t *testing.T) {
	forStacks(t, func(t *testing.T, g impl.Graph, from int, stack []impl.Label) {
		path, cost := impl.StackPath(g, from, stack), impl.StackCost(g, from, stack)
		for i := range g.Links {
			if impl.StackCrosses(g, from, stack, i) {
				continue
			}
			less, rest := withoutLink(g, i), renumbered(stack, i)
			if got := impl.StackPath(less, from, rest); !slices.Equal(got, path) {
				t.Errorf("StackPath(%v, %d, %v) is %v, and %v without link %d", g, from, stack, path, got, i)
			}
			if got := impl.StackCost(less, from, rest); got != cost {
				t.Errorf("StackCost(%v, %d, %v) is %d, and %d without link %d", g, from, stack, cost, got, i)
			}
		}
	})
}

// Promise 53 the other way: a link that a packet may cross is missed, by its path or by the number of its ways.
func TestStackMissesLinkThatItCrosses(t *testing.T) {
	forTrips(t, func(t *testing.T, g impl.Graph, from int, stack []impl.Label) {
		for i := range g.Links {
			if !impl.StackCrosses(g, from, stack, i) {
				continue
			}
			missed, n := false, from
			for _, label := range stack {
				less := pathsOf(withoutLink(g, i), n, renumbered([]impl.Label{label}, i)[0])
				missed = missed || !slices.EqualFunc(less, pathsOf(g, n, label), slices.Equal[[]int])
				n = endOf(t, g, n, []impl.Label{label})
			}
			if !missed {
				t.Errorf("StackCrosses(%v, %d, %v, %d), but the link is not missed", g, from, stack, i)
			}
		}
	})
}

// Promise 54.
func TestUniqueStackCrossesOnlyItsPath(t *testing.T) {
	forStacks(t, func(t *testing.T, g impl.Graph, from int, stack []impl.Label) {
		if !impl.StackUnique(g, from, stack) {
			return
		}
		path := impl.StackPath(g, from, stack)
		for i, l := range g.Links {
			if impl.StackCrosses(g, from, stack, i) && !crosses(path, l) {
				t.Errorf("StackCrosses(%v, %d, %v, %d), but the only path is %v", g, from, stack, i, path)
			}
		}
	})
}

// Promise 55.
func TestStackOfLinksIsUnique(t *testing.T) {
	forValid(t, func(t *testing.T, g impl.Graph) {
		r := rand.New(rand.NewSource(5))
		for length := range impl.MaxStack + 1 {
			n := r.Intn(g.Nodes)
			from, stack := n, []impl.Label{}
			for neighbours := impl.GraphNeighbours(g, n); len(stack) < length && len(neighbours) > 0; neighbours = impl.GraphNeighbours(g, n) {
				next := neighbours[r.Intn(len(neighbours))]
				stack = append(stack, overLink(linkBetween(g, n, next)))
				n = next
			}
			if end, ok := impl.StackEnd(g, from, stack); !ok || end != n || !impl.StackUnique(g, from, stack) {
				t.Errorf("StackEnd(%v, %d, %v) is %d, %v, or StackUnique fails", g, from, stack, end, ok)
			}
		}
	})
}

// Promise 56. A stack that is full has no room for the label, and then leads nowhere with it.
func TestFurtherLabelOfTheEnd(t *testing.T) {
	forTrips(t, func(t *testing.T, g impl.Graph, from int, stack []impl.Label) {
		longer := append(slices.Clone(stack), toNode(endOf(t, g, from, stack)))
		if len(stack) == impl.MaxStack {
			expectNowhere(t, g, from, longer)
			return
		}
		if path, got := impl.StackPath(g, from, stack), impl.StackPath(g, from, longer); !slices.Equal(got, path) {
			t.Errorf("StackPath(%v, %d, %v) is %v, and not %v", g, from, longer, got, path)
		}
		if cost, got := impl.StackCost(g, from, stack), impl.StackCost(g, from, longer); got != cost {
			t.Errorf("StackCost(%v, %d, %v) is %d, and not %d", g, from, longer, got, cost)
		}
		if impl.StackUnique(g, from, longer) != impl.StackUnique(g, from, stack) {
			t.Errorf("StackUnique(%v, %d, %v) is not that without the last label", g, from, longer)
		}
	})
}

// Promise 57. The nodes are those at which the packet is after each label, and the one at which it begins.
func TestStackOfNodesLeadsBack(t *testing.T) {
	forValid(t, func(t *testing.T, g impl.Graph) {
		r := rand.New(rand.NewSource(6))
		for length := range impl.MaxStack + 1 {
			from := r.Intn(g.Nodes)
			nodes, stack, back := []int{from}, []impl.Label{}, []impl.Label{}
			for reach := reachOf(g, from); len(stack) < length; {
				nodes = append(nodes, reach[r.Intn(len(reach))])
				stack = append(stack, toNode(nodes[len(nodes)-1]))
				back = append([]impl.Label{toNode(nodes[len(nodes)-2])}, back...)
			}
			end := endOf(t, g, from, stack)
			if got := endOf(t, g, end, back); got != from {
				t.Errorf("in %v, %v leads from %d to %d, but %v back to %d", g, stack, from, end, back, got)
			}
			if there, again := impl.StackCost(g, from, stack), impl.StackCost(g, end, back); there != again {
				t.Errorf("in %v, %v from %d costs %d, and %v back %d", g, stack, from, there, back, again)
			}
			if impl.StackUnique(g, from, stack) != impl.StackUnique(g, end, back) {
				t.Errorf("in %v, only one of %v from %d and %v back is unique", g, stack, from, back)
			}
		}
	})
}

// Promise 58, and that StackUnique does not hold otherwise.
func TestStackIsNotUniqueOnlyForAReason(t *testing.T) {
	forStacks(t, func(t *testing.T, g impl.Graph, from int, stack []impl.Label) {
		_, ok := impl.StackEnd(g, from, stack)
		choice := false
		for i, label := range stack {
			if ok && label.Kind == impl.LabelNode {
				n := endOf(t, g, from, stack[:i])
				choice = choice || impl.PathCount(g, n, label.Arg) > 1
			}
		}
		if got := impl.StackUnique(g, from, stack); got != (ok && !choice) {
			t.Errorf("StackUnique(%v, %d, %v) is %v, with choice %v and end %v", g, from, stack, got, choice, ok)
		}
	})
}

// The other tests would show little if the stacks that they are run on were not of all sorts.
func TestStacksAreOfAllSorts(t *testing.T) {
	sorts := map[string]int{}
	for _, g := range validGraphs() {
		for _, s := range startsIn(g) {
			got, leads := tripOf(g, s.from, s.stack)
			switch {
			case len(s.stack) > impl.MaxStack:
				sorts["too long"]++
			case !leads:
				sorts["cannot be used"]++
			case !got.unique:
				sorts["with a choice"]++
			case len(got.path) == 1:
				sorts["stays"]++
			case len(s.stack) == impl.MaxStack:
				sorts["full"]++
			default:
				sorts["ordinary"]++
			}
		}
	}
	for _, sort := range []string{"too long", "cannot be used", "with a choice", "stays", "full", "ordinary"} {
		if sorts[sort] < 100 {
			t.Errorf("there are %d stacks of the sort: %s", sorts[sort], sort)
		}
	}
}

// Labels of nodes and links that do not exist, in each place of a stack that leads somewhere.
func TestStacksWithWhatDoesNotExist(t *testing.T) {
	forValid(t, func(t *testing.T, g impl.Graph) {
		r := rand.New(rand.NewSource(7))
		wrong := []impl.Label{}
		for _, n := range outside(g.Nodes) {
			wrong = append(wrong, toNode(n))
		}
		for _, i := range outside(len(g.Links)) {
			wrong = append(wrong, overLink(i))
		}
		for _, label := range wrong {
			from := r.Intn(g.Nodes)
			expectNowhere(t, g, from, []impl.Label{label})
			stack := randomStack(r, g, from, impl.MaxStack-1)
			expectNowhere(t, g, from, slices.Insert(stack, r.Intn(len(stack)+1), label))
		}
	})
}

func TestStacksWithLabelsOfAnotherKind(t *testing.T) {
	for _, kind := range append([]int{3, 4}, oddNumbers...) {
		if kind == impl.LabelNode || kind == impl.LabelLink {
			continue
		}
		for _, arg := range append([]int{2, 3, 4, 5, 6}, oddNumbers...) {
			label := impl.Label{Kind: kind, Arg: arg}
			for from := range 5 {
				expectNowhere(t, square(), from, []impl.Label{label})
				expectNowhere(t, square(), from, []impl.Label{toNode(0), label})
				expectNowhere(t, square(), from, []impl.Label{label, toNode(0)})
			}
		}
	}
}

// From a node that does not exist not even an empty stack leads somewhere, nor one that begins with this node.
func TestStacksFromNodesThatDoNotExist(t *testing.T) {
	forValid(t, func(t *testing.T, g impl.Graph) {
		for _, from := range outside(g.Nodes) {
			expectNowhere(t, g, from, nil)
			expectNowhere(t, g, from, []impl.Label{toNode(from)})
			expectNowhere(t, g, from, []impl.Label{toNode(0)})
			expectNowhere(t, g, from, []impl.Label{overLink(0)})
		}
	})
}

func TestStackCrossesOfLinkThatDoesNotExist(t *testing.T) {
	forTrips(t, func(t *testing.T, g impl.Graph, from int, stack []impl.Label) {
		for _, i := range outside(len(g.Links)) {
			if impl.StackCrosses(g, from, stack, i) {
				t.Errorf("StackCrosses(%v, %d, %v, %d)", g, from, stack, i)
			}
		}
	})
	for _, i := range outside(0) { // Nor is a link crossed because a label has the same wrong index.
		if impl.StackCrosses(impl.Graph{Nodes: 2}, 0, []impl.Label{overLink(i)}, i) {
			t.Errorf("StackCrosses of link %d, which does not exist", i)
		}
	}
}

func TestStacksInInvalidGraph(t *testing.T) {
	forInvalid(t, func(t *testing.T, g impl.Graph) {
		for from := -1; from <= 8; from++ {
			expectNowhere(t, g, from, nil)
			expectNowhere(t, g, from, []impl.Label{toNode(from)})
			expectNowhere(t, g, from, []impl.Label{toNode(0), toNode(1)})
			expectNowhere(t, g, from, []impl.Label{overLink(0)})
			expectNowhere(t, g, from, []impl.Label{overLink(0), overLink(0)})
		}
	})
	for _, nodes := range []int{math.MinInt, 0, impl.MaxNodes + 1, math.MaxInt} {
		expectNowhere(t, impl.Graph{Nodes: nodes}, 0, nil)
		expectNowhere(t, impl.Graph{Nodes: nodes}, 0, []impl.Label{toNode(0)})
	}
	if got := impl.StackPath(impl.Graph{Nodes: 2, Links: make([]impl.Link, 1<<20)}, 0, nil); len(got) != 0 {
		t.Errorf("StackPath with a million links is %v", got)
	}
}

// The general rules: arguments are not changed, and no memory is shared with a result.
func TestStacksShareNoMemory(t *testing.T) {
	g, untouched := guarded(square())
	memory := []impl.Label{toNode(4), overLink(3), toNode(3), {Kind: -7, Arg: -8}, {Kind: -9, Arg: -10}}
	stack, before := memory[:3], slices.Clone(memory)
	want := trip{[]int{0, 4, 1, 2, 3}, 13, []int{1, 2, 3, 4}, true}
	for range 2 {
		expectTrip(t, g, 0, stack, want)
		spoil(impl.StackPath(g, 0, stack), -5)
		spoil(impl.StackPath(g, 0, stack[:0]), -5)
		spoil(impl.StackPath(g, 9, stack), -5)
		if !untouched() || !slices.Equal(memory, before) {
			t.Errorf("the graph has become %v, and the labels %v", g, memory)
		}
	}
}
