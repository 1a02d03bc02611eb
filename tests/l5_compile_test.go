package tests

import (
	"math"
	"math/rand"
	"slices"
	"testing"

	"loop.example/linkstaterouting/impl"
)

// linkedList reports whether a list of numbers is a valid path of a valid graph.
func linkedList(g impl.Graph, path []int) bool {
	if len(path) < 1 || len(path) > 9 {
		return false
	}
	for i, n := range path {
		if n < 0 || n >= g.Nodes || i > 0 && linkBetween(g, path[i-1], n) == -1 {
			return false
		}
	}
	return true
}

// costOf is the cost of all links of a path.
func costOf(g impl.Graph, path []int) int {
	sum := 0
	for i := 1; i < len(path); i++ {
		sum += g.Links[linkBetween(g, path[i-1], path[i])].Cost
	}
	return sum
}

// isOnly reports whether a path is the only one in the list of all shortest paths between its ends.
func isOnly(g impl.Graph, path []int) bool {
	paths := leastPaths(g, path[0], path[len(path)-1])
	return len(paths) == 1 && slices.Equal(paths[0], path)
}

// longestParts are the labels of a valid path, each of which takes the longest part that it can.
func longestParts(g impl.Graph, path []int) []impl.Label {
	stack := []impl.Label{}
	for at := 0; at < len(path)-1; {
		next, label := at+1, overLink(linkBetween(g, path[at], path[at+1]))
		for end := at + 1; end < len(path); end++ {
			if isOnly(g, path[at:end+1]) {
				next, label = end, toNode(path[end])
			}
		}
		stack, at = append(stack, label), next
	}
	return stack
}

// fewestLabels is the least number of labels that lead without choice over a valid path, whichever parts they take.
func fewestLabels(g impl.Graph, path []int) int {
	fewest := []int{0}
	for end := 1; end < len(path); end++ {
		least := fewest[end-1] + 1 // The last link alone always has a label.
		for at := range end {
			if fewest[at]+1 < least && isOnly(g, path[at:end+1]) {
				least = fewest[at] + 1
			}
		}
		fewest = append(fewest, least)
	}
	return fewest[len(path)-1]
}

// compiled is StackCompile of a path for which it must succeed.
func compiled(t *testing.T, g impl.Graph, path []int) []impl.Label {
	t.Helper()
	stack, ok := impl.StackCompile(g, path)
	if !ok {
		t.Fatalf("StackCompile(%v, %v) fails", g, path)
	}
	return stack
}

// reversed is the path the other way.
func reversed(path []int) []int {
	back := slices.Clone(path)
	slices.Reverse(back)
	return back
}

// expectPath checks what the functions say of a valid path.
func expectPath(t *testing.T, g impl.Graph, path []int, cost int, labels []impl.Label) {
	t.Helper()
	if !impl.PathValid(g, path) {
		t.Errorf("PathValid(%v, %v) is false", g, path)
	}
	if got := impl.PathCost(g, path); got != cost {
		t.Errorf("PathCost(%v, %v) is %d, not %d", g, path, got, cost)
	}
	if got, ok := impl.StackCompile(g, path); !ok || !slices.Equal(got, labels) {
		t.Errorf("StackCompile(%v, %v) is %v, %v, not %v", g, path, got, ok, labels)
	}
}

// expectNoPath checks what the functions say of a path that is not valid.
func expectNoPath(t *testing.T, g impl.Graph, path []int) {
	t.Helper()
	if impl.PathValid(g, path) {
		t.Errorf("PathValid(%v, %v) is true", g, path)
	}
	if got := impl.PathCost(g, path); got != -1 {
		t.Errorf("PathCost(%v, %v) is %d", g, path, got)
	}
	if got, ok := impl.StackCompile(g, path); ok || len(got) != 0 {
		t.Errorf("StackCompile(%v, %v) is %v, %v", g, path, got, ok)
	}
}

// expectList checks a list of numbers, which may be a valid path or not.
func expectList(t *testing.T, g impl.Graph, path []int) {
	t.Helper()
	if linkedList(g, path) {
		expectPath(t, g, path, costOf(g, path), longestParts(g, path))
	} else {
		expectNoPath(t, g, path)
	}
}

// neighboursOf are the nodes that have a link with node n, found by looking at every pair.
func neighboursOf(g impl.Graph, n int) []int {
	list := []int{}
	for m := range g.Nodes {
		if linkBetween(g, n, m) != -1 {
			list = append(list, m)
		}
	}
	return list
}

// wander returns a path of so many nodes over any links, or of fewer if it begins at a node without links.
// Without turning it goes back over the same link only if there is no other one.
func wander(r *rand.Rand, g impl.Graph, length int, turning bool) []int {
	path := []int{r.Intn(g.Nodes)}
	for len(path) < length {
		next := neighboursOf(g, path[len(path)-1])
		if len(next) == 0 {
			return path
		}
		if len(path) > 1 && len(next) > 1 && !turning {
			next = slices.DeleteFunc(next, func(n int) bool { return n == path[len(path)-2] })
		}
		path = append(path, next[r.Intn(len(next))])
	}
	return path
}

// joined returns a path of at most so many nodes that follows shortest paths to one node after the other.
func joined(r *rand.Rand, g impl.Graph, length int) []int {
	path := []int{r.Intn(g.Nodes)}
	for range length {
		reach := reachOf(g, path[len(path)-1])
		paths := leastPaths(g, path[len(path)-1], reach[r.Intn(len(reach))])
		path = append(path, paths[r.Intn(len(paths))][1:]...)
	}
	return path[:min(len(path), length)]
}

// pathsIn returns valid paths in a graph, always the same ones.
func pathsIn(g impl.Graph) [][]int {
	r := rand.New(rand.NewSource(8))
	list := [][]int{}
	for length := 1; length <= impl.MaxStack+1; length++ {
		list = append(list, wander(r, g, length, true), wander(r, g, length, false), joined(r, g, length))
	}
	return list
}

// listsIn returns lists of numbers, always the same ones, of which most break a rule: longer
// paths than fit, and paths in which one number is any node, one outside, or the one before.
func listsIn(g impl.Graph) [][]int {
	r := rand.New(rand.NewSource(9))
	list := [][]int{{}}
	for length := 1; length <= impl.MaxStack+1; length++ {
		path := wander(r, g, length, false)
		place := r.Intn(len(path))
		for _, n := range []int{r.Intn(g.Nodes), -1, g.Nodes, path[max(place-1, 0)]} {
			other := slices.Clone(path)
			other[place] = n
			list = append(list, other)
		}
		list = append(list, wander(r, g, impl.MaxStack+1+length, true))
	}
	return list
}

// forPaths runs a check on valid paths in every valid graph.
func forPaths(t *testing.T, check func(t *testing.T, g impl.Graph, path []int)) {
	forValid(t, func(t *testing.T, g impl.Graph) {
		for _, path := range pathsIn(g) {
			check(t, g, path)
		}
	})
}

// shortLists are all lists of at most four numbers that are nodes of the graph, or next to these.
func shortLists(g impl.Graph) [][]int {
	lists := [][]int{{}}
	for i := 0; i < len(lists); i++ {
		for n := -1; n <= g.Nodes && len(lists[i]) < 4; n++ {
			lists = append(lists, append(slices.Clone(lists[i]), n))
		}
	}
	return lists
}

func TestPathsAgainstAllPaths(t *testing.T) {
	forPaths(t, func(t *testing.T, g impl.Graph, path []int) {
		if !linkedList(g, path) {
			t.Errorf("%v has no path %v", g, path)
		}
		expectList(t, g, path)
	})
}

func TestListsAgainstAllPaths(t *testing.T) {
	forValid(t, func(t *testing.T, g impl.Graph) {
		for _, path := range listsIn(g) {
			expectList(t, g, path)
		}
	})
}

func TestShortListsAgainstAllPaths(t *testing.T) {
	for _, g := range []impl.Graph{{Nodes: 1}, {Nodes: 3}, square(), detours(), islands()} {
		for _, path := range shortLists(g) {
			expectList(t, g, path)
		}
	}
}

func TestPathsByHand(t *testing.T) {
	dearTurns := slices.Repeat([]impl.Label{overLink(3)}, 8)
	for _, c := range []struct {
		name   string
		g      impl.Graph
		path   []int
		cost   int
		labels []impl.Label
	}{
		{"one node", square(), []int{2}, 0, nil},
		{"the only node", impl.Graph{Nodes: 1}, []int{0}, 0, nil},
		{"one node without links", islands(), []int{6}, 0, nil},
		{"a link", square(), []int{0, 1}, 2, []impl.Label{toNode(1)}},
		{"a link the other way", square(), []int{1, 0}, 2, []impl.Label{toNode(0)}},
		{"a link there and back", square(), []int{0, 1, 0}, 4, []impl.Label{toNode(1), toNode(0)}},
		{"a link there, back and there", square(), []int{0, 1, 0, 1}, 6, []impl.Label{toNode(1), toNode(0), toNode(1)}},
		{"a link that is too dear", square(), []int{1, 4}, 6, []impl.Label{overLink(3)}},
		{"a link that is too dear, the other way", square(), []int{4, 1}, 6, []impl.Label{overLink(3)}},
		{"a link that is too dear, there and back", square(), []int{1, 4, 1}, 12, []impl.Label{overLink(3), overLink(3)}},
		{"as many labels of links as fit", square(), []int{1, 4, 1, 4, 1, 4, 1, 4, 1}, 48, dearTurns},
		{"a link of the same cost as its detours", detours(), []int{0, 3}, 20, []impl.Label{overLink(2)}},
		{"a link of the same cost, in the middle", detours(), []int{1, 0, 3, 2}, 39, []impl.Label{toNode(0), overLink(2), toNode(2)}},
		{"a detour of the same cost", detours(), []int{0, 1, 3}, 20, []impl.Label{toNode(1), overLink(4)}},
		{"a longer detour of the same cost", detours(), []int{0, 1, 2, 3}, 20, []impl.Label{toNode(1), toNode(2), toNode(3)}},
		{"the only shortest path", square(), []int{0, 1, 2}, 4, []impl.Label{toNode(2)}},
		{"the only shortest path, instead of a link", square(), []int{1, 0, 4}, 5, []impl.Label{toNode(4)}},
		{"one of two shortest paths", square(), []int{0, 1, 2, 3}, 6, []impl.Label{toNode(2), toNode(3)}},
		{"the other one of two shortest paths", square(), []int{0, 4, 3}, 6, []impl.Label{toNode(4), toNode(3)}},
		{"one of eight shortest paths", layers(), []int{0, 2, 3, 6, 7}, 20, []impl.Label{toNode(2), toNode(3), toNode(6), toNode(7)}},
		{"several shortest paths in the middle", layers(), []int{1, 0, 2, 4}, 15, []impl.Label{toNode(0), toNode(2), toNode(4)}},
		{"a node, then a dear link", square(), []int{0, 4, 1}, 9, []impl.Label{toNode(4), overLink(3)}},
		{"a dear link between nodes", square(), []int{0, 4, 1, 2}, 11, []impl.Label{toNode(4), overLink(3), toNode(2)}},
		{"a dear link, then a node", square(), []int{1, 4, 3}, 9, []impl.Label{overLink(3), toNode(3)}},
		{"dear links between longer parts", square(), []int{2, 1, 4, 0, 1}, 13, []impl.Label{toNode(1), overLink(3), toNode(1)}},
		{"shortest there and back", square(), []int{0, 1, 2, 1, 0}, 8, []impl.Label{toNode(2), toNode(0)}},
		{"the only shortest path is another one", square(), []int{2, 1, 4}, 8, []impl.Label{toNode(1), overLink(3)}},
		{"the only shortest path is a link", square(), []int{0, 4, 1, 0}, 11, []impl.Label{toNode(4), overLink(3), toNode(0)}},
		{"all the way round", square(), []int{0, 1, 2, 3, 4, 0}, 12, []impl.Label{toNode(2), toNode(4), toNode(0)}},
		{"all the way round, as long as fits", ring(), []int{0, 1, 2, 3, 4, 5, 6, 7, 0}, 8, []impl.Label{toNode(3), toNode(6), toNode(0)}},
		{"round the other way", ring(), []int{0, 7, 6, 5, 4, 3, 2, 1, 0}, 8, []impl.Label{toNode(5), toNode(2), toNode(0)}},
		{"half the way round", ring(), []int{2, 3, 4, 5, 6}, 4, []impl.Label{toNode(5), toNode(6)}},
		{"a link of one of three parts", islands(), []int{3, 2, 3, 2, 3}, 12, []impl.Label{toNode(2), toNode(3), toNode(2), toNode(3)}},
		{"across the bridge", bridge(), []int{7, 6, 5, 4, 1}, 14, []impl.Label{toNode(6), toNode(1)}},
		{"the last link of the most", bridge(), []int{5, 7, 6}, 4, []impl.Label{overLink(12), toNode(6)}},
		{"the first link of the most", bridge(), []int{1, 0, 2}, 29, []impl.Label{overLink(0), toNode(2)}},
	} {
		t.Run(c.name, func(t *testing.T) { expectPath(t, c.g, c.path, c.cost, c.labels) })
	}
}

// The dearest path that the limits allow has eight links of the greatest cost. A line has no choice of paths.
func TestPathAtTheLimits(t *testing.T) {
	line := impl.Graph{Nodes: 8}
	for a := range 7 {
		line.Links = append(line.Links, impl.Link{A: a, B: a + 1, Cost: 20})
	}
	expectPath(t, line, []int{0, 1, 2, 3, 4, 5, 6, 7}, 140, []impl.Label{toNode(7)})
	longest := []int{0, 1, 2, 3, 4, 5, 6, 7, 6}
	expectPath(t, line, longest, 160, []impl.Label{toNode(7), toNode(6)})
	expectNoPath(t, line, append(longest, 5))
	turns := []int{0, 1, 0, 1, 0, 1, 0, 1, 0}
	expectPath(t, line, turns, 160, []impl.Label{toNode(1), toNode(0), toNode(1), toNode(0), toNode(1), toNode(0), toNode(1), toNode(0)})
	expectNoPath(t, line, append(turns, 1))
}

func TestPathsThatAreNotValid(t *testing.T) {
	for _, c := range []struct {
		name string
		g    impl.Graph
		path []int
	}{
		{"no nodes", square(), nil},
		{"an empty slice", square(), []int{}},
		{"no nodes, one node", impl.Graph{Nodes: 1}, nil},
		{"more nodes than fit", square(), []int{0, 1, 0, 1, 0, 1, 0, 1, 0, 1}},
		{"more nodes than fit, a shortest path at the end", ring(), []int{0, 1, 2, 3, 4, 5, 6, 7, 0, 1}},
		{"far more nodes than fit", square(), slices.Repeat([]int{0, 1}, 1<<20)},
		{"only the node after the last one", square(), []int{5}},
		{"only the node before the first one", square(), []int{-1}},
		{"the node after the only one", impl.Graph{Nodes: 1}, []int{1}},
		{"a node that does not exist, at the beginning", square(), []int{-1, 0}},
		{"a node that does not exist, in the middle", square(), []int{0, 5, 4}},
		{"a node that does not exist, at the end", square(), []int{4, 5}},
		{"nodes that do not exist", square(), []int{5, 6}},
		{"no link", square(), []int{0, 2}},
		{"no link, at the beginning", square(), []int{0, 3, 4}},
		{"no link, in the middle", square(), []int{1, 0, 3, 4}},
		{"no link, at the end", square(), []int{0, 1, 3}},
		{"no link, as many nodes as fit", ring(), []int{0, 1, 2, 3, 4, 5, 6, 7, 1}},
		{"no link in the whole graph", impl.Graph{Nodes: 2}, []int{0, 1}},
		{"another part", islands(), []int{0, 1, 2}},
		{"a node without links", islands(), []int{5, 6}},
		{"from a node without links", islands(), []int{6, 0}},
		{"the same node twice", square(), []int{0, 0}},
		{"the same node twice, at the beginning", square(), []int{0, 0, 1}},
		{"the same node twice, at the end", square(), []int{0, 1, 1}},
		{"the only node twice", impl.Graph{Nodes: 1}, []int{0, 0}},
	} {
		t.Run(c.name, func(t *testing.T) { expectNoPath(t, c.g, c.path) })
	}
}

// Promise 59, also for lists that are no valid paths.
func TestValidPathIsLinkedBothWays(t *testing.T) {
	forValid(t, func(t *testing.T, g impl.Graph) {
		for _, path := range append(pathsIn(g), listsIn(g)...) {
			back := reversed(path)
			if got := impl.PathValid(g, path); got != linkedList(g, path) || got != impl.PathValid(g, back) {
				t.Errorf("PathValid(%v, %v) is %v", g, path, got)
			}
			if there, again := impl.PathCost(g, path), impl.PathCost(g, back); there != again {
				t.Errorf("PathCost(%v, %v) is %d, and %d the other way", g, path, there, again)
			}
		}
	})
}

// Promise 60, of any valid path.
func TestPathCostIsAtLeastTheDistance(t *testing.T) {
	forPaths(t, func(t *testing.T, g impl.Graph, path []int) {
		if got := impl.PathCost(g, path); got < distance(g, path[0], path[len(path)-1]) {
			t.Errorf("PathCost(%v, %v) is %d", g, path, got)
		}
	})
}

// Promise 60, of ShortestPath. Where a node is not reached, this is empty and not valid.
func TestPathCostOfShortestPathIsTheDistance(t *testing.T) {
	forPairs(t, func(t *testing.T, g impl.Graph, from int, to int) {
		path := impl.ShortestPath(g, from, to)
		if got := impl.PathCost(g, path); got != distance(g, from, to) {
			t.Errorf("PathCost(%v, %v) is %d", g, path, got)
		}
		if got := impl.PathValid(g, path); got != (distance(g, from, to) != -1) {
			t.Errorf("PathValid(%v, %v) is %v", g, path, got)
		}
	})
}

// Promises 61 and 62.
func TestStackCompileLeadsExactlyOverThePath(t *testing.T) {
	forPaths(t, func(t *testing.T, g impl.Graph, path []int) {
		stack := compiled(t, g, path)
		if got := impl.StackPath(g, path[0], stack); !slices.Equal(got, path) || !impl.StackUnique(g, path[0], stack) {
			t.Errorf("in %v, %v leads over %v, not over %v, or with choice", g, stack, got, path)
		}
		if cost, got := impl.PathCost(g, path), impl.StackCost(g, path[0], stack); got != cost {
			t.Errorf("in %v, %v costs %d, but %v costs %d", g, stack, got, path, cost)
		}
	})
}

// Promise 63. Both parts have the node at which one ends and the other one begins.
func TestStackCompileIsNoLongerThanThatOfParts(t *testing.T) {
	forPaths(t, func(t *testing.T, g impl.Graph, path []int) {
		count := len(compiled(t, g, path))
		if count > len(path)-1 {
			t.Errorf("StackCompile(%v, %v) has %d labels", g, path, count)
		}
		for i := range path {
			if parts := len(compiled(t, g, path[:i+1])) + len(compiled(t, g, path[i:])); count > parts {
				t.Errorf("StackCompile(%v, %v) has %d labels, but %d in two parts at %d", g, path, count, parts, i)
			}
		}
	})
}

// Promise 64, of every part of a path; a part that is not the only shortest path does not have this label.
func TestStackCompileOfOnlyShortestPath(t *testing.T) {
	forPaths(t, func(t *testing.T, g impl.Graph, path []int) {
		for at := range path {
			for end := at + 1; end < len(path); end++ {
				stack := compiled(t, g, path[at:end+1])
				if one := slices.Equal(stack, []impl.Label{toNode(path[end])}); one != isOnly(g, path[at:end+1]) {
					t.Errorf("StackCompile(%v, %v) is %v", g, path[at:end+1], stack)
				}
			}
		}
	})
}

// Promise 65, for whichever stacks might lead over the path.
func TestStackCompileHasTheFewestLabels(t *testing.T) {
	forPaths(t, func(t *testing.T, g impl.Graph, path []int) {
		if count, fewest := len(compiled(t, g, path)), fewestLabels(g, path); count != fewest {
			t.Errorf("StackCompile(%v, %v) has %d labels, not %d", g, path, count, fewest)
		}
	})
}

// Promise 65, for stacks that are given first. Those that lead over more nodes than a path may have cannot be compiled.
func TestStackCompileIsNoLongerThanAGivenStack(t *testing.T) {
	forTrips(t, func(t *testing.T, g impl.Graph, from int, stack []impl.Label) {
		path := impl.StackPath(g, from, stack)
		switch {
		case len(path) > impl.MaxStack+1:
			expectNoPath(t, g, path)
		case impl.StackUnique(g, from, stack):
			if got := compiled(t, g, path); len(got) > len(stack) {
				t.Errorf("in %v, %v leads over %v, but StackCompile is %v", g, stack, path, got)
			}
		}
	})
}

// Promise 66.
func TestStackCompileOfReversePath(t *testing.T) {
	forPaths(t, func(t *testing.T, g impl.Graph, path []int) {
		there, back := compiled(t, g, path), compiled(t, g, reversed(path))
		if len(there) != len(back) {
			t.Errorf("StackCompile(%v, %v) is %v, and the other way %v", g, path, there, back)
		}
	})
}

// Promise 67. Of several shortest paths, none has the label of its end alone.
func TestStackCompileOfShortestPaths(t *testing.T) {
	forPairs(t, func(t *testing.T, g impl.Graph, from int, to int) {
		paths := leastPaths(g, from, to)
		if len(paths) == 1 {
			stack, want := compiled(t, g, impl.ShortestPath(g, from, to)), []impl.Label{toNode(to)}
			if from == to {
				want = nil
			}
			if !slices.Equal(stack, want) {
				t.Errorf("StackCompile(%v) of the path from %d to %d is %v", g, from, to, stack)
			}
			return
		}
		for _, path := range paths {
			stack := compiled(t, g, path)
			if len(path) == 2 && !slices.Equal(stack, []impl.Label{overLink(linkBetween(g, from, to))}) || len(path) > 2 && len(stack) < 2 {
				t.Errorf("StackCompile(%v, %v) is %v, of %d paths", g, path, stack, len(paths))
			}
		}
	})
}

// A path over one link is compiled to its other end if no other path is as cheap, and to the link otherwise.
func TestStackCompileOfLinks(t *testing.T) {
	forValid(t, func(t *testing.T, g impl.Graph) {
		for i, l := range g.Links {
			there, back := []impl.Label{overLink(i)}, []impl.Label{overLink(i)}
			if other := leastCosts(withoutLink(g, i))[l.A][l.B]; other == -1 || other > l.Cost {
				there, back = []impl.Label{toNode(l.B)}, []impl.Label{toNode(l.A)}
			}
			expectPath(t, g, []int{l.A, l.B}, l.Cost, there)
			expectPath(t, g, []int{l.B, l.A}, l.Cost, back)
		}
	})
}

// The other tests would show little if the paths that they are run on were not of all sorts.
func TestPathsAreOfAllSorts(t *testing.T) {
	sorts := map[string]int{}
	count := func(sort string, is bool) {
		if is {
			sorts[sort]++
		}
	}
	for _, g := range validGraphs() {
		for _, path := range pathsIn(g) {
			first, last := path[0], path[len(path)-1]
			stack, nodes := longestParts(g, path), slices.Clone(path)
			slices.Sort(nodes)
			count("one node", len(path) == 1)
			count("as many nodes as fit", len(path) == impl.MaxStack+1)
			count("nodes several times", len(slices.Compact(nodes)) < len(path))
			count("not shortest", costOf(g, path) > leastCosts(g)[first][last])
			count("not shortest, where only one is", costOf(g, path) > leastCosts(g)[first][last] && first != last && len(leastPaths(g, first, last)) == 1)
			count("one of several shortest", len(leastPaths(g, first, last)) > 1 && costOf(g, path) == leastCosts(g)[first][last])
			count("one label for several links", len(stack) == 1 && len(path) > 2)
			count("with a label of a link", slices.ContainsFunc(stack, func(l impl.Label) bool { return l.Kind == impl.LabelLink }))
			count("as many labels as fit", len(stack) == impl.MaxStack)
			count("fewer labels than links, but several", len(stack) > 1 && len(stack) < len(path)-1)
		}
		for _, path := range listsIn(g) {
			count("too long", len(path) > impl.MaxStack+1)
			count("not valid, but short", len(path) <= impl.MaxStack+1 && !linkedList(g, path))
		}
	}
	for _, sort := range []string{"one node", "as many nodes as fit", "nodes several times", "not shortest", "not shortest, where only one is", "one of several shortest",
		"one label for several links", "with a label of a link", "as many labels as fit", "fewer labels than links, but several", "too long", "not valid, but short"} {
		if sorts[sort] < 100 {
			t.Errorf("there are %d paths of the sort: %s", sorts[sort], sort)
		}
	}
}

// Nodes that do not exist, alone and in each place of a path.
func TestPathsOverNodesThatDoNotExist(t *testing.T) {
	forValid(t, func(t *testing.T, g impl.Graph) {
		for i, path := range pathsIn(g) {
			for _, n := range outside(g.Nodes) {
				other := slices.Clone(path)
				other[i%len(path)] = n
				expectNoPath(t, g, other)
				expectNoPath(t, g, []int{n})
			}
		}
	})
}

// Of all pairs of nodes, equal ones among them, only those with a link follow each other, at each end of a path.
func TestPathsWithoutLink(t *testing.T) {
	forPairs(t, func(t *testing.T, g impl.Graph, from int, to int) {
		if linkBetween(g, from, to) != -1 {
			return
		}
		expectNoPath(t, g, []int{from, to})
		for _, next := range neighboursOf(g, to) {
			expectNoPath(t, g, []int{from, to, next})
			expectNoPath(t, g, []int{next, to, from})
		}
	})
}

func TestPathsInInvalidGraph(t *testing.T) {
	forInvalid(t, func(t *testing.T, g impl.Graph) {
		for n := -1; n <= 8; n++ {
			expectNoPath(t, g, []int{n})
		}
		for _, path := range [][]int{nil, {0, 1}, {1, 0}, {0, 1, 0}, {0, 1, 2}, {0, 1, 0, 1, 0, 1, 0, 1, 0}} {
			expectNoPath(t, g, path)
		}
	})
	for _, nodes := range []int{math.MinInt, 0, impl.MaxNodes + 1, math.MaxInt} {
		expectNoPath(t, impl.Graph{Nodes: nodes}, []int{0})
	}
	expectNoPath(t, impl.Graph{Nodes: 2, Links: make([]impl.Link, 1<<20)}, []int{0, 1})
}

// The general rules: arguments are not changed, and no memory is shared with a result.
func TestPathsShareNoMemory(t *testing.T) {
	g, untouched := guarded(square())
	memory := []int{0, 4, 1, 2, -7, -8}
	path, before := memory[:4], slices.Clone(memory)
	for range 2 {
		expectPath(t, g, path, 11, []impl.Label{toNode(4), overLink(3), toNode(2)})
		for _, list := range [][]int{path, path[:1], path[:0]} {
			stack, _ := impl.StackCompile(g, list)
			spoil(stack, impl.Label{Kind: -5, Arg: -6})
		}
		if !untouched() || !slices.Equal(memory, before) {
			t.Errorf("the graph has become %v, and the nodes %v", g, memory)
		}
	}
}
