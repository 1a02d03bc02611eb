package tests

import (
	"cmp"
	"math"
	"math/rand"
	"slices"
	"testing"

	"loop.example/linkstaterouting/impl"
)

// update is a link that fails, with what the lists of all shortest paths to a node say of the next hops there.
type update struct {
	g      impl.Graph
	link   int
	to     int
	order  []int   // the nodes that use the link, in the order in which they change
	before [][]int // the next hops of each node with the link
	after  [][]int // the next hops of each node without the link
}

// updateOf finds out which tables for a node change when a link fails.
func updateOf(g impl.Graph, link int, to int) update {
	u, less := update{g: g, link: link, to: to}, withoutLink(g, link)
	for n := range g.Nodes {
		paths := leastPaths(g, n, to)
		if slices.ContainsFunc(paths, func(path []int) bool { return crosses(path, g.Links[link]) }) {
			u.order = append(u.order, n)
		}
		u.before, u.after = append(u.before, firstSteps(paths)), append(u.after, firstSteps(leastPaths(less, n, to)))
	}
	costs := leastCosts(g)[to]
	slices.SortFunc(u.order, func(a int, b int) int { return cmp.Or(costs[b]-costs[a], a-b) })
	return u
}

// firstSteps are the nodes to which the first steps of ascending paths lead, each once.
func firstSteps(paths [][]int) []int {
	list := []int{}
	for _, path := range paths {
		if len(path) > 1 {
			list = append(list, path[1])
		}
	}
	return slices.Compact(list)
}

// hops are the next hops of a node while some nodes have changed their tables.
func (u update) hops(changed []int, n int) []int {
	if slices.Contains(changed, n) {
		return u.after[n]
	}
	return slices.DeleteFunc(slices.Clone(u.before[n]), func(hop int) bool { return crosses([]int{n, hop}, u.g.Links[u.link]) })
}

// later tells of every two nodes whether a packet that has left the first one can come to the second one.
func (u update) later(changed []int) [][]bool {
	later := make([][]bool, u.g.Nodes)
	for n := range later {
		later[n] = make([]bool, u.g.Nodes)
		for _, hop := range u.hops(changed, n) {
			later[n][hop] = true
		}
	}
	for m := range later {
		for a := range later {
			for b := range later {
				later[a][b] = later[a][b] || later[a][m] && later[m][b]
			}
		}
	}
	return later
}

// fates are the nodes from which a packet can come to a node to which it comes again and again,
// and the nodes from which it cannot, nor come to a node other than the last one that has no next hops.
func (u update) fates(changed []int) ([]int, []int) {
	loop, arrives := []int{}, []int{}
	later := u.later(changed)
	for n := range later {
		again, ends := false, true
		for m := range later {
			if m == n || later[n][m] {
				again = again || later[m][m]
				ends = ends && (m == u.to || len(u.hops(changed, m)) > 0)
			}
		}
		if again {
			loop = append(loop, n)
		} else if ends {
			arrives = append(arrives, n)
		}
	}
	return loop, arrives
}

// everybody are all nodes of a graph.
func everybody(g impl.Graph) []int {
	list := []int{}
	for n := range g.Nodes {
		list = append(list, n)
	}
	return list
}

// changedLists returns lists of nodes that have changed: nobody, all beginnings and ends of an order, everybody,
// and lists in any order, in which nodes can occur several times or not exist.
func changedLists(g impl.Graph, order []int) [][]int {
	lists := [][]int{{}, order, everybody(g)}
	for i := range order {
		lists = append(lists, order[:i], order[i:])
	}
	r := rand.New(rand.NewSource(int64(16*len(g.Links) + len(order))))
	for range 4 {
		list := []int{}
		for range r.Intn(2 * g.Nodes) {
			list = append(list, r.Intn(g.Nodes+2)-1)
		}
		lists = append(lists, list)
	}
	return lists
}

// forMixed runs a check on every node, every link and some lists of nodes that have changed, of every valid graph.
func forMixed(t *testing.T, check func(t *testing.T, g impl.Graph, link int, to int, changed []int)) {
	forLinks(t, func(t *testing.T, g impl.Graph, to int, link int) {
		for _, changed := range changedLists(g, impl.UpdateOrder(g, link, to)) {
			check(t, g, link, to, changed)
		}
	})
}

// expectOrder checks the order of updates.
func expectOrder(t *testing.T, g impl.Graph, link int, to int, order []int) {
	t.Helper()
	if got := impl.UpdateOrder(g, link, to); !slices.Equal(got, order) {
		t.Errorf("UpdateOrder(%v, %d, %d) is %v, not %v", g, link, to, got, order)
	}
}

// expectHops checks the next hops of a node while some nodes have changed.
func expectHops(t *testing.T, g impl.Graph, link int, to int, changed []int, n int, hops []int) {
	t.Helper()
	if got := impl.MixedHops(g, link, to, changed, n); !slices.Equal(got, hops) {
		t.Errorf("MixedHops(%v, %d, %d, %v, %d) is %v, not %v", g, link, to, changed, n, got, hops)
	}
}

// expectFates checks from which nodes packets can run forever, and from which ones all arrive.
func expectFates(t *testing.T, g impl.Graph, link int, to int, changed []int, loop []int, arrives []int) {
	t.Helper()
	if got := impl.MixedLoop(g, link, to, changed); !slices.Equal(got, loop) {
		t.Errorf("MixedLoop(%v, %d, %d, %v) is %v, not %v", g, link, to, changed, got, loop)
	}
	if got := impl.MixedArrives(g, link, to, changed); !slices.Equal(got, arrives) {
		t.Errorf("MixedArrives(%v, %d, %d, %v) is %v, not %v", g, link, to, changed, got, arrives)
	}
}

// expectNoUpdate checks that all results are empty, whoever has changed.
func expectNoUpdate(t *testing.T, g impl.Graph, link int, to int) {
	t.Helper()
	expectOrder(t, g, link, to, nil)
	for _, changed := range [][]int{nil, {0, 1, 2, 3, 4, 5, 6, 7}, {to}, oddNumbers} {
		expectFates(t, g, link, to, changed, nil, nil)
		for n := -1; n <= impl.MaxNodes; n++ {
			expectHops(t, g, link, to, changed, n, nil)
		}
		expectHops(t, g, link, to, changed, to, nil)
	}
}

func TestUpdatesAgainstAllPaths(t *testing.T) {
	forLinks(t, func(t *testing.T, g impl.Graph, to int, link int) {
		u := updateOf(g, link, to)
		expectOrder(t, g, link, to, u.order)
		for _, changed := range changedLists(g, u.order) {
			for n := range g.Nodes {
				expectHops(t, g, link, to, changed, n, u.hops(changed, n))
			}
			loop, arrives := u.fates(changed)
			expectFates(t, g, link, to, changed, loop, arrives)
		}
	})
}

// twins has a link 2-3 that all other nodes use for the node 3. The nodes 0 and 1 have equal distances, as have 4 and 5.
func twins() impl.Graph {
	return impl.Graph{Nodes: 6, Links: []impl.Link{{A: 0, B: 2, Cost: 4}, {A: 0, B: 5, Cost: 3}, {A: 1, B: 2, Cost: 4}, {A: 1, B: 4, Cost: 3}, {A: 2, B: 3, Cost: 2}, {A: 3, B: 5, Cost: 20}}}
}

// triangle has a link 0-3, which fails. Each of the nodes 0, 1 and 2 has a link with the other ones, and 2 has a dear one with 3.
func triangle() impl.Graph {
	return impl.Graph{Nodes: 4, Links: []impl.Link{{A: 0, B: 1, Cost: 1}, {A: 0, B: 2, Cost: 2}, {A: 0, B: 3, Cost: 1}, {A: 1, B: 2, Cost: 1}, {A: 2, B: 3, Cost: 10}}}
}

func TestUpdateOrderByHand(t *testing.T) {
	for _, c := range []struct {
		name  string
		g     impl.Graph
		link  int
		to    int
		order []int
	}{
		{"the example of the command interface", square(), 0, 1, []int{4, 0}},
		{"one of two paths crosses", square(), 0, 0, []int{3, 2, 1}},
		{"one of two paths crosses, from the far end", square(), 0, 3, []int{0}},
		{"a link that no node uses", square(), 3, 1, nil},
		{"a link that no node uses, to its other end", square(), 3, 4, nil},
		{"a link that is used for others only", square(), 2, 4, nil},
		{"several paths, and some nodes with a single one", triangle(), 0, 2, []int{3, 0}},
		{"equal distances", layers(), 0, 0, []int{7, 5, 6, 3, 4, 1}},
		{"equal distances, the other way", layers(), 10, 7, []int{0, 1, 2, 3, 4, 5}},
		{"equal distances, not side by side", twins(), 4, 3, []int{4, 5, 0, 1, 2}},
		{"one of four paths crosses", detours(), 2, 3, []int{0}},
		{"half of a ring", ring(), 0, 1, []int{5, 6, 7, 0}},
		{"half of a ring, the other way", ring(), 0, 0, []int{4, 3, 2, 1}},
		{"a critical link", chain(), 3, 3, []int{0, 1, 2}},
		{"a critical link, the other way", chain(), 3, 2, []int{5, 6, 4, 3}},
		{"a critical link, not at its end", chain(), 3, 0, []int{5, 6, 4, 3}},
		{"the only link", islands(), 0, 1, []int{0}},
		{"a link in another part", islands(), 1, 0, nil},
		{"to a node without links", islands(), 0, 6, nil},
		{"two nodes", impl.Graph{Nodes: 2, Links: []impl.Link{{A: 0, B: 1, Cost: 20}}}, 0, 0, []int{1}},
	} {
		t.Run(c.name, func(t *testing.T) { expectOrder(t, c.g, c.link, c.to, c.order) })
	}
}

func TestMixedHopsByHand(t *testing.T) {
	for _, c := range []struct {
		name    string
		g       impl.Graph
		link    int
		to      int
		changed []int
		n       int
		hops    []int
	}{
		{"an end that has not changed", square(), 0, 1, nil, 0, nil},
		{"an end that has changed", square(), 0, 1, []int{0}, 0, []int{4}},
		{"an end, when only another node has changed", square(), 0, 1, []int{4}, 0, nil},
		{"no end, not changed", square(), 0, 1, []int{0}, 4, []int{0}},
		{"no end, changed", square(), 0, 1, []int{4, 0}, 4, []int{1}},
		{"a node that does not use the link, not changed", square(), 0, 1, []int{4, 0}, 3, []int{2}},
		{"a node that does not use the link, changed", square(), 0, 1, []int{3}, 3, []int{2}},
		{"the node itself, not changed", square(), 0, 1, nil, 1, nil},
		{"the node itself, changed", square(), 0, 1, []int{1}, 1, nil},
		{"the node itself, no end", square(), 0, 3, nil, 3, nil},
		{"the end over which the link is not used", square(), 0, 3, nil, 1, []int{2}},
		{"an end that has another next hop, not changed", square(), 0, 3, nil, 0, []int{4}},
		{"an end that has another next hop, changed", square(), 0, 3, []int{0}, 0, []int{4}},
		{"an end that has a smaller next hop", ring(), 1, 4, nil, 0, []int{1}},
		{"an end that has a greater next hop", ring(), 0, 4, nil, 0, []int{7}},
		{"an end whose other next hops are left", layers(), 4, 1, nil, 2, []int{0, 4}},
		{"an end that gets two next hops", layers(), 0, 0, []int{1}, 1, []int{3, 4}},
		{"no end, one of two next hops uses the link, not changed", layers(), 0, 0, []int{1}, 3, []int{1, 2}},
		{"no end, one of two next hops uses the link, changed", layers(), 0, 0, []int{3}, 3, []int{2}},
		{"both next hops use the link, not changed", layers(), 0, 0, nil, 7, []int{5, 6}},
		{"both next hops use the link, changed", layers(), 0, 0, []int{7}, 7, []int{5, 6}},
		{"a next hop that is an end, but not over the link", square(), 2, 0, nil, 3, []int{2, 4}},
		{"a link that no node uses, its end not changed", square(), 3, 4, nil, 1, []int{0}},
		{"a link that no node uses, its end changed", square(), 3, 4, []int{1}, 1, []int{0}},
		{"a critical link, its end not changed", chain(), 3, 3, nil, 2, nil},
		{"a critical link, its end changed", chain(), 3, 3, []int{2}, 2, nil},
		{"a critical link, no end, not changed", chain(), 3, 3, []int{1, 2}, 0, []int{2}},
		{"a critical link, no end, changed", chain(), 3, 3, []int{0}, 0, nil},
		{"not reached with the link, not changed", islands(), 0, 0, nil, 2, nil},
		{"not reached with the link, changed", islands(), 0, 0, []int{2}, 2, nil},
		{"a node without links", chain(), 0, 0, nil, 7, nil},
		{"a node that has changed twice", square(), 0, 1, []int{4, 4}, 4, []int{1}},
		{"a node that has changed among some that do not exist", square(), 0, 1, []int{-1, 5, 0, math.MaxInt}, 0, []int{4}},
		{"a node that has not changed, as some that do not exist", square(), 0, 1, []int{-1, 5, math.MinInt}, 4, []int{0}},
		{"a node before the first one", square(), 0, 1, []int{-1}, -1, nil},
		{"a node after the last one", square(), 0, 1, []int{5}, 5, nil},
	} {
		t.Run(c.name, func(t *testing.T) { expectHops(t, c.g, c.link, c.to, c.changed, c.n, c.hops) })
	}
}

func TestMixedLoopAndArrivesByHand(t *testing.T) {
	for _, c := range []struct {
		name    string
		g       impl.Graph
		link    int
		to      int
		changed []int
		loop    []int
		arrives []int
	}{
		{"nobody has changed", square(), 0, 1, nil, nil, []int{1, 2, 3}},
		{"the first one has changed", square(), 0, 1, []int{4}, nil, []int{1, 2, 3, 4}},
		{"the whole order has changed", square(), 0, 1, []int{4, 0}, nil, []int{0, 1, 2, 3, 4}},
		{"everybody has changed", square(), 0, 1, []int{0, 1, 2, 3, 4}, nil, []int{0, 1, 2, 3, 4}},
		{"the last one has changed first", square(), 0, 1, []int{0}, []int{0, 4}, []int{1, 2, 3}},
		{"nodes that do not use the link have changed", square(), 0, 1, []int{3, 2, 1}, nil, []int{1, 2, 3}},
		{"nodes that do not exist have changed", square(), 0, 1, []int{-1, 5, 8, math.MinInt, math.MaxInt}, nil, []int{1, 2, 3}},
		{"a node has changed twice", square(), 0, 1, []int{4, 4}, nil, []int{1, 2, 3, 4}},
		{"the last one has changed first, and twice, and others that do not matter", square(), 0, 1, []int{0, -1, 2, 0, 7}, []int{0, 4}, []int{1, 2, 3}},
		{"a link that no node uses, nobody", square(), 3, 1, nil, nil, []int{0, 1, 2, 3, 4}},
		{"a link that no node uses, some", square(), 3, 4, []int{1, 3}, nil, []int{0, 1, 2, 3, 4}},
		{"a ring, nobody: a packet from 5 arrives or not", ring(), 0, 1, nil, nil, []int{1, 2, 3, 4}},
		{"a ring, one", ring(), 0, 1, []int{5}, nil, []int{1, 2, 3, 4, 5}},
		{"a ring, two", ring(), 0, 1, []int{5, 6}, nil, []int{1, 2, 3, 4, 5, 6}},
		{"a ring, three", ring(), 0, 1, []int{5, 6, 7}, nil, []int{1, 2, 3, 4, 5, 6, 7}},
		{"a ring, all", ring(), 0, 1, []int{5, 6, 7, 0}, nil, []int{0, 1, 2, 3, 4, 5, 6, 7}},
		{"a ring, the last one: a packet from 5 arrives or runs forever", ring(), 0, 1, []int{0}, []int{0, 5, 6, 7}, []int{1, 2, 3, 4}},
		{"a ring, the first and the last one", ring(), 0, 1, []int{5, 0}, []int{0, 6, 7}, []int{1, 2, 3, 4, 5}},
		{"a ring, the last but one: a packet from 0 does neither", ring(), 0, 1, []int{7}, []int{5, 6, 7}, []int{1, 2, 3, 4}},
		{"a ring, the last two: a packet from 0 comes into the loop", ring(), 0, 1, []int{0, 7}, []int{0, 5, 6, 7}, []int{1, 2, 3, 4}},
		{"a ring, the last three: a packet from 5 comes back to it or not", ring(), 0, 1, []int{0, 7, 6}, []int{0, 5, 6, 7}, []int{1, 2, 3, 4}},
		{"a ring, all but the last but one", ring(), 0, 1, []int{0, 6, 5}, []int{0, 7}, []int{1, 2, 3, 4, 5, 6}},
		{"three nodes in loops, nobody", triangle(), 2, 3, nil, nil, []int{3}},
		{"three nodes in loops, the first one", triangle(), 2, 3, []int{2}, nil, []int{2, 3}},
		{"three nodes in loops, the first two", triangle(), 2, 3, []int{2, 1}, nil, []int{1, 2, 3}},
		{"three nodes in loops, the last two", triangle(), 2, 3, []int{1, 0}, []int{0, 1, 2}, []int{3}},
		{"three nodes in loops, the last one", triangle(), 2, 3, []int{0}, []int{0, 1, 2}, []int{3}},
		{"three nodes in loops, the middle one", triangle(), 2, 3, []int{1}, []int{1, 2}, []int{3}},
		{"an end has two next hops over which packets run back", layers(), 0, 0, []int{1}, []int{1, 3, 4, 5, 6, 7}, []int{0, 2}},
		{"one next hop of two runs back", layers(), 0, 0, []int{1, 3}, []int{1, 4, 5, 6, 7}, []int{0, 2, 3}},
		{"a critical link, nobody", chain(), 3, 3, nil, nil, []int{3, 4, 5, 6}},
		{"a critical link, one", chain(), 3, 3, []int{0}, nil, []int{3, 4, 5, 6}},
		{"a critical link, its end", chain(), 3, 3, []int{2}, nil, []int{3, 4, 5, 6}},
		{"a critical link, everybody", chain(), 3, 3, []int{0, 1, 2, 3, 4, 5, 6, 7}, nil, []int{3, 4, 5, 6}},
		{"the only link", islands(), 0, 1, nil, nil, []int{1}},
		{"the only link, everybody", islands(), 0, 1, []int{0, 1, 2, 3, 4, 5, 6}, nil, []int{1}},
		{"a link in another part", islands(), 1, 0, []int{2}, nil, []int{0, 1}},
		{"to a node without links", islands(), 0, 6, []int{0, 6}, nil, []int{6}},
		{"two nodes", impl.Graph{Nodes: 2, Links: []impl.Link{{A: 0, B: 1, Cost: 20}}}, 0, 0, []int{1}, nil, []int{0}},
	} {
		t.Run(c.name, func(t *testing.T) { expectFates(t, c.g, c.link, c.to, c.changed, c.loop, c.arrives) })
	}
}

// Promise 112.
func TestUpdateOrderHasTheNodesThatUseTheLink(t *testing.T) {
	forLinks(t, func(t *testing.T, g impl.Graph, to int, link int) {
		order := impl.UpdateOrder(g, link, to)
		got := slices.Sorted(slices.Values(order)) // A node that is in it twice occurs twice.
		want := slices.DeleteFunc(everybody(g), func(n int) bool { return !impl.LinkUsed(g, n, to, link) })
		if !slices.Equal(got, want) || slices.Contains(order, to) {
			t.Errorf("UpdateOrder(%v, %d, %d) is %v, and the nodes that use the link are %v", g, link, to, order, want)
		}
	})
}

// Promise 113. All nodes in it are reached.
func TestUpdateOrderByDistanceAndNumber(t *testing.T) {
	forLinks(t, func(t *testing.T, g impl.Graph, to int, link int) {
		order := impl.UpdateOrder(g, link, to)
		for i, n := range order {
			if distance(g, to, n) < 1 {
				t.Errorf("UpdateOrder(%v, %d, %d) is %v, with %d at the distance %d", g, link, to, order, n, distance(g, to, n))
			}
			if i == 0 {
				continue
			}
			previous := order[i-1]
			if far, near := distance(g, previous, to), distance(g, n, to); far < near || far == near && previous >= n {
				t.Errorf("UpdateOrder(%v, %d, %d) is %v, with %d at the distance %d before %d at %d", g, link, to, order, previous, far, n, near)
			}
		}
	})
}

// Promise 114, whoever else has changed.
func TestMixedHopsOfNodesThatHaveChanged(t *testing.T) {
	forMixed(t, func(t *testing.T, g impl.Graph, link int, to int, changed []int) {
		less, _ := impl.GraphWithout(g, link)
		for _, n := range changed {
			expectHops(t, g, link, to, changed, n, impl.NextHops(less, n, to))
		}
	})
}

// Promise 115, whoever else has changed.
func TestMixedHopsOfNodesThatHaveNotChanged(t *testing.T) {
	forMixed(t, func(t *testing.T, g impl.Graph, link int, to int, changed []int) {
		l := g.Links[link]
		for n := range g.Nodes {
			if slices.Contains(changed, n) {
				continue
			}
			want := []int{}
			for _, hop := range impl.NextHops(g, n, to) {
				if over := n == l.A && hop == l.B || n == l.B && hop == l.A; !over {
					want = append(want, hop)
				}
			}
			expectHops(t, g, link, to, changed, n, want)
		}
	})
}

// Promise 116. That is why it does not matter whether such a node is among those that have changed.
func TestNodesThatDoNotUseTheLinkKeepTheirHops(t *testing.T) {
	forFailures(t, func(t *testing.T, g impl.Graph, n int, link int, to int) {
		if impl.LinkUsed(g, n, to, link) {
			return
		}
		hops := impl.NextHops(g, n, to)
		if after := impl.NextHops(withoutLink(g, link), n, to); !slices.Equal(hops, after) {
			t.Errorf("in %v, the next hops from %d to %d are %v, and %v without %d", g, n, to, hops, after, link)
		}
		for _, changed := range [][]int{nil, {n}, everybody(g)} {
			expectHops(t, g, link, to, changed, n, hops)
		}
	})
}

// Promise 117.
func TestUpdateOrderMakesNoLoop(t *testing.T) {
	forLinks(t, func(t *testing.T, g impl.Graph, to int, link int) {
		order := impl.UpdateOrder(g, link, to)
		for i := range len(order) + 1 {
			if loop := impl.MixedLoop(g, link, to, order[:i]); len(loop) != 0 {
				t.Errorf("MixedLoop(%v, %d, %d, %v) is %v, but the order is %v", g, link, to, order[:i], loop, order)
			}
		}
	})
}

// Promise 118.
func TestMixedLoopHasTheNodesWithNextHopsInIt(t *testing.T) {
	forMixed(t, func(t *testing.T, g impl.Graph, link int, to int, changed []int) {
		loop := impl.MixedLoop(g, link, to, changed)
		want := slices.DeleteFunc(everybody(g), func(n int) bool {
			return !slices.ContainsFunc(impl.MixedHops(g, link, to, changed, n), func(hop int) bool { return slices.Contains(loop, hop) })
		})
		if !slices.Equal(loop, want) {
			t.Errorf("MixedLoop(%v, %d, %d, %v) is %v, but the nodes with next hops in it are %v", g, link, to, changed, loop, want)
		}
	})
}

// The chapter's words on MixedArrives, for which promise 118 has the counterpart: it has the node itself,
// and those with next hops that all are in it.
func TestMixedArrivesHasTheNodesWithAllNextHopsInIt(t *testing.T) {
	forMixed(t, func(t *testing.T, g impl.Graph, link int, to int, changed []int) {
		arrives := impl.MixedArrives(g, link, to, changed)
		want := slices.DeleteFunc(everybody(g), func(n int) bool {
			hops := impl.MixedHops(g, link, to, changed, n)
			lost := slices.ContainsFunc(hops, func(hop int) bool { return !slices.Contains(arrives, hop) })
			return n != to && (len(hops) == 0 || lost)
		})
		if !slices.Equal(arrives, want) {
			t.Errorf("MixedArrives(%v, %d, %d, %v) is %v, but the nodes with all next hops in it are %v", g, link, to, changed, arrives, want)
		}
	})
}

// Promise 119, and the same if all others have changed, too.
func TestAllArriveThatCanIfTheWholeOrderHasChanged(t *testing.T) {
	forLinks(t, func(t *testing.T, g impl.Graph, to int, link int) {
		reached := reachOf(withoutLink(g, link), to)
		expectFates(t, g, link, to, impl.UpdateOrder(g, link, to), nil, reached)
		expectFates(t, g, link, to, everybody(g), nil, reached)
	})
}

// Promise 120.
func TestNodesThatDoNotUseTheLinkAlwaysArrive(t *testing.T) {
	forLinks(t, func(t *testing.T, g impl.Graph, to int, link int) {
		safe := slices.DeleteFunc(impl.GraphReach(g, to), func(n int) bool { return impl.LinkUsed(g, n, to, link) })
		for _, changed := range changedLists(g, impl.UpdateOrder(g, link, to)) {
			arrives := impl.MixedArrives(g, link, to, changed)
			for _, n := range safe {
				if !slices.Contains(arrives, n) {
					t.Errorf("MixedArrives(%v, %d, %d, %v) is %v, without %d", g, link, to, changed, arrives, n)
				}
			}
		}
	})
}

// Promise 121.
func TestNoNodeArrivesAndLoops(t *testing.T) {
	forMixed(t, func(t *testing.T, g impl.Graph, link int, to int, changed []int) {
		loop, arrives := impl.MixedLoop(g, link, to, changed), impl.MixedArrives(g, link, to, changed)
		for _, n := range loop {
			if slices.Contains(arrives, n) {
				t.Errorf("in %v, %d to %d with %v changed, MixedLoop is %v and MixedArrives %v", g, link, to, changed, loop, arrives)
			}
		}
	})
}

// Promise 122. A node that arrives before anyone has changed does so at all times.
func TestNodesThatArriveStayThoseThatArrive(t *testing.T) {
	forLinks(t, func(t *testing.T, g impl.Graph, to int, link int) {
		order := impl.UpdateOrder(g, link, to)
		before := impl.MixedArrives(g, link, to, nil)
		for i := range order {
			after := impl.MixedArrives(g, link, to, order[:i+1])
			for _, n := range before {
				if !slices.Contains(after, n) {
					t.Errorf("in %v, %d to %d, MixedArrives is %v, and %v when %v have changed", g, link, to, before, after, order[:i+1])
				}
			}
			before = after
		}
	})
}

// Promise 123.
func TestUpdateOrderHasAllNodesThatAreNotSafe(t *testing.T) {
	forLinks(t, func(t *testing.T, g impl.Graph, to int, link int) {
		order, safe := impl.UpdateOrder(g, link, to), impl.RepairSafe(g, to, link)
		if reached := impl.GraphReach(g, to); len(order)+len(safe) != len(reached) {
			t.Errorf("in %v, %d to %d, UpdateOrder is %v, RepairSafe %v and GraphReach %v", g, link, to, order, safe, reached)
		}
	})
}

// The list of those that have changed is a set: neither its order nor what occurs twice matters, nor what does not exist.
func TestChangedNodesAreASet(t *testing.T) {
	forLinks(t, func(t *testing.T, g impl.Graph, to int, link int) {
		order := impl.UpdateOrder(g, link, to)
		changed := order[len(order)/2:] // Those whose packets may run forever if they change first.
		more := slices.Concat(changed, outside(g.Nodes), changed)
		slices.Reverse(more)
		expectFates(t, g, link, to, more, impl.MixedLoop(g, link, to, changed), impl.MixedArrives(g, link, to, changed))
		for n := range g.Nodes {
			expectHops(t, g, link, to, more, n, impl.MixedHops(g, link, to, changed, n))
		}
	})
}

// A link that no shortest path uses can fail without anybody having to change.
func TestUpdatesOfLinkThatIsNotUsed(t *testing.T) {
	forMixed(t, func(t *testing.T, g impl.Graph, link int, to int, changed []int) {
		if l := g.Links[link]; distance(g, l.A, l.B) == l.Cost {
			return
		}
		expectOrder(t, g, link, to, nil)
		expectFates(t, g, link, to, changed, nil, reachOf(g, to))
		for n := range g.Nodes {
			expectHops(t, g, link, to, changed, n, impl.NextHops(g, n, to))
		}
	})
}

// The other tests would show little if the updates that they are run on were not of all sorts.
func TestUpdatesAreOfAllSorts(t *testing.T) {
	sorts := map[string]int{}
	count := func(sort string, is bool) {
		if is {
			sorts[sort]++
		}
	}
	for _, g := range validGraphs() {
		for link, l := range g.Links {
			for to := range g.Nodes {
				u, costs := updateOf(g, link, to), leastCosts(g)[to]
				count("nobody uses the link", len(u.order) == 0)
				for i := 1; i < len(u.order); i++ {
					count("equal distances", costs[u.order[i-1]] == costs[u.order[i]])
					count("different distances, greater number first", costs[u.order[i-1]] > costs[u.order[i]] && u.order[i-1] > u.order[i])
				}
				for _, changed := range changedLists(g, u.order) {
					loop, arrives := u.fates(changed)
					loops, later := func(n int) bool { return slices.Contains(loop, n) }, u.later(changed)
					lost := func(n int) bool { return !slices.Contains(arrives, n) }
					count("a loop of some", len(loop) > 0)
					count("a loop of more than two", len(loop) > 2)
					for n := range g.Nodes {
						hops, uses := u.hops(changed, n), slices.Contains(u.order, n)
						own := slices.Contains(changed, n)
						count("without next hops: not reached with the link", costs[n] == -1)
						count("without next hops: not reached without the link, changed", uses && own && len(hops) == 0)
						count("without next hops: only over the link, not changed", uses && !own && len(hops) == 0)
						count("an end with other next hops, not changed", uses && !own && l.A == n && len(hops) > 0 && len(hops) < len(u.before[n]))
						count("the other end with other next hops, not changed", uses && !own && l.B == n && len(hops) > 0 && len(hops) < len(u.before[n]))
						count("other next hops, changed", uses && own && len(hops) > 0 && !slices.Equal(hops, u.before[n]))
						count("changed, but does not use the link", own && !uses && len(hops) > 0)
						count("some next hops arrive, and others run forever", slices.ContainsFunc(hops, loops) && slices.ContainsFunc(hops, func(hop int) bool { return !lost(hop) }))
						count("some next hops arrive, and others do not, without a loop", !loops(n) && slices.ContainsFunc(hops, lost) && slices.ContainsFunc(hops, func(hop int) bool { return !lost(hop) }))
						count("in no loop, but comes into one", loops(n) && !later[n][n])
						count("in neither", !loops(n) && lost(n) && len(hops) > 0)
					}
				}
			}
		}
	}
	for _, sort := range []string{"nobody uses the link", "equal distances", "different distances, greater number first", "a loop of some", "a loop of more than two",
		"without next hops: not reached with the link", "without next hops: not reached without the link, changed", "without next hops: only over the link, not changed",
		"an end with other next hops, not changed", "the other end with other next hops, not changed", "other next hops, changed", "changed, but does not use the link",
		"some next hops arrive, and others run forever", "some next hops arrive, and others do not, without a loop", "in no loop, but comes into one", "in neither"} {
		if sorts[sort] < 100 {
			t.Errorf("there are %d updates of the sort: %s", sorts[sort], sort)
		}
	}
}

// A node that does not exist has no packets, not even to itself.
func TestUpdatesOfNodesThatDoNotExist(t *testing.T) {
	forValid(t, func(t *testing.T, g impl.Graph) {
		for _, n := range outside(g.Nodes) {
			for link := range g.Links {
				expectNoUpdate(t, g, link, n)
				for to := range g.Nodes {
					expectHops(t, g, link, to, nil, n, nil)
					expectHops(t, g, link, to, []int{n}, n, nil)
				}
			}
		}
	})
}

// Without such a link, not even the node itself arrives.
func TestUpdatesOfLinkThatDoesNotExist(t *testing.T) {
	forValid(t, func(t *testing.T, g impl.Graph) {
		for _, link := range outside(len(g.Links)) {
			for to := range g.Nodes {
				expectNoUpdate(t, g, link, to)
			}
		}
	})
}

func TestUpdatesInInvalidGraph(t *testing.T) {
	forInvalid(t, func(t *testing.T, g impl.Graph) {
		for link := -1; link <= len(g.Links); link++ {
			for to := -1; to <= 9; to++ {
				expectNoUpdate(t, g, link, to)
			}
		}
	})
	for _, nodes := range []int{math.MinInt, 0, impl.MaxNodes + 1, math.MaxInt} {
		expectNoUpdate(t, impl.Graph{Nodes: nodes}, 0, 0)
	}
	expectNoUpdate(t, impl.Graph{Nodes: 2, Links: make([]impl.Link, 1<<20)}, 0, 1)
}

// The general rules: arguments are not changed, and no memory is shared with a result.
func TestUpdatesShareNoMemory(t *testing.T) {
	g, untouched := guarded(square())
	memory := []int{4, 0, -1, 4, -7, -8}
	before := slices.Clone(memory)
	for range 2 {
		expectOrder(t, g, 0, 1, []int{4, 0})
		expectHops(t, g, 0, 1, memory[:4], 4, []int{1})
		expectHops(t, g, 0, 1, memory[1:3], 4, []int{0})
		expectFates(t, g, 0, 1, memory[:4], nil, []int{0, 1, 2, 3, 4})
		expectFates(t, g, 0, 1, memory[1:3], []int{0, 4}, []int{1, 2, 3})
		for to := -1; to <= 5; to++ {
			spoil(impl.UpdateOrder(g, 0, to), -5)
			for _, changed := range [][]int{memory[:4], memory[1:3], memory[:0]} {
				spoil(impl.MixedHops(g, 0, to, changed, 0), -5)
				spoil(impl.MixedLoop(g, 0, to, changed), -5)
				spoil(impl.MixedArrives(g, 0, to, changed), -5)
			}
		}
		if !untouched() || !slices.Equal(memory, before) {
			t.Errorf("the graph has become %v, and the nodes %v", g, memory)
		}
	}
}
