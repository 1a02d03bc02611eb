package impl

import (
	"container/heap"
	"slices"
)

// unreached is the distance of a node to which no path leads.
const unreached = -1

// visit is a node that waits, with the cost of a path that leads to it.
type visit struct {
	node int
	cost int
}

// visitHeap holds waiting nodes, of which the nearest one is taken first.
type visitHeap []visit

// Len returns the number of waiting nodes.
func (h visitHeap) Len() int { return len(h) }

// Less reports whether one waiting node is nearer than another one.
func (h visitHeap) Less(i int, j int) bool { return h[i].cost < h[j].cost }

// Swap exchanges two waiting nodes.
func (h visitHeap) Swap(i int, j int) { h[i], h[j] = h[j], h[i] }

// Push appends a waiting node.
func (h *visitHeap) Push(x any) { *h = append(*h, x.(visit)) }

// Pop removes the last waiting node and returns it.
func (h *visitHeap) Pop() any {
	last := len(*h) - 1
	v := (*h)[last]
	*h = (*h)[:last]
	return v
}

// Distances returns the distances of all nodes from a node.
func Distances(g Graph, from int) []int {
	if !g.validWith(from) {
		return []int{}
	}
	distances := slices.Repeat([]int{unreached}, g.Nodes)
	waiting := visitHeap{{node: from, cost: 0}}
	for len(waiting) > 0 {
		v := heap.Pop(&waiting).(visit)
		if distances[v.node] != unreached {
			continue // A node waits once for each path found; the cheapest one came first.
		}
		distances[v.node] = v.cost
		for neighbour, link := range g.neighbours(v.node) {
			heap.Push(&waiting, visit{node: neighbour, cost: v.cost + g.Links[link].Cost})
		}
	}
	return distances
}

// NextHops returns the neighbours over which shortest paths lead.
func NextHops(g Graph, from int, to int) []int {
	list := []int{}
	if !g.validWith(from, to) {
		return list
	}
	distances := Distances(g, to)
	// Where to is not reached no neighbour fits: all of them are unreached too, and every link costs something.
	for neighbour, link := range g.neighbours(from) {
		if distances[neighbour]+g.Links[link].Cost == distances[from] {
			list = append(list, neighbour)
		}
	}
	return list
}

// ShortestPath returns the shortest path over the smallest neighbours.
func ShortestPath(g Graph, from int, to int) []int {
	path := []int{}
	if !slices.Contains(GraphReach(g, from), to) {
		return path
	}
	for n := from; n != to; n = NextHops(g, n, to)[0] {
		path = append(path, n)
	}
	return append(path, to)
}

// PathCount returns the number of shortest paths.
func PathCount(g Graph, from int, to int) int {
	if !g.validWith(from, to) {
		return -1
	}
	if from == to {
		return 1
	}
	count := 0
	for _, hop := range NextHops(g, from, to) {
		count += PathCount(g, hop, to) // This ends, because each next hop is nearer.
	}
	return count
}

// LinkUsed reports whether a shortest path crosses a link.
func LinkUsed(g Graph, from int, to int, link int) bool {
	if !g.validWith(from, to) || !g.hasLink(link) {
		return false
	}
	return g.takes(from, to, g.Links[link])
}

// NodeUsed reports whether a shortest path leads over a node.
func NodeUsed(g Graph, from int, to int, n int) bool {
	if !g.validWith(from, to, n) {
		return false
	}
	stay := Link{A: n, B: n, Cost: 0} // A path leads over a node if it could stay there for nothing.
	return g.takes(from, to, stay)
}

// validWith reports whether g is valid and all of these nodes exist in it.
func (g Graph) validWith(nodes ...int) bool {
	return GraphValid(g) && !slices.ContainsFunc(nodes, func(n int) bool { return !g.hasNode(n) })
}

// takes reports whether a shortest path between two nodes takes a step, in either direction.
func (g Graph) takes(from int, to int, step Link) bool {
	there, back := Distances(g, from), Distances(g, to)
	// What is unreached has no cost that could be added up. The end B needs no look: it is reached if A is.
	if there[to] == unreached || there[step.A] == unreached {
		return false
	}
	least := min(there[step.A]+back[step.B], there[step.B]+back[step.A])
	return least+step.Cost == there[to]
}
