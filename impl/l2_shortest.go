package impl

import (
	"container/heap"
	"slices"
)

// unreached is the distance of a node to which no path leads.
const unreached = -1

// visit is a node that waits, with the cost of a path that leads to it.
type visit struct {
	node int
	cost int
}

// visitHeap holds waiting nodes, of which the nearest one is taken first.
type visitHeap []visit

// Len returns the number of waiting nodes.
func (h visitHeap) Len() int { return len(h) }

// Less reports whether one waiting node is nearer than another one.
func (h visitHeap) Less(i int, j int) bool { return h[i].cost < h[j].cost }

// Swap exchanges two waiting nodes.
func (h visitHeap) Swap(i int, j int) { h[i], h[j] = h[j], h[i] }

// Push appends a waiting node.
func (h *visitHeap) Push(x any) { *h = append(*h, x.(visit)) }

// Pop removes the last waiting node and returns it.
func (h *visitHeap) Pop() any {
	last := len(*h) - 1
	v := (*h)[last]
	*h = (*h)[:last]
	return v
}

// Distances returns the distances of all nodes from a node.
func Distances(g Graph, from int) []int {
	if !GraphValid(g) || !g.hasNode(from) {
		return []int{}
	}
	distances := slices.Repeat([]int{unreached}, g.Nodes)
	waiting := visitHeap{{node: from, cost: 0}}
	for len(waiting) > 0 {
		v := heap.Pop(&waiting).(visit)
		if distances[v.node] != unreached {
			continue // A node waits once for each path found; the cheapest one came first.
		}
		distances[v.node] = v.cost
		for neighbour, link := range g.neighbours(v.node) {
			heap.Push(&waiting, visit{node: neighbour, cost: v.cost + g.Links[link].Cost})
		}
	}
	return distances
}

// NextHops returns the neighbours over which shortest paths lead.
func NextHops(g Graph, from int, to int) []int {
	return []int{}
}

// ShortestPath returns the shortest path over the smallest neighbours.
func ShortestPath(g Graph, from int, to int) []int {
	return []int{}
}

// PathCount returns the number of shortest paths.
func PathCount(g Graph, from int, to int) int {
	return 0
}

// LinkUsed reports whether a shortest path crosses a link.
func LinkUsed(g Graph, from int, to int, link int) bool {
	return false
}

// NodeUsed reports whether a shortest path leads over a node.
func NodeUsed(g Graph, from int, to int, n int) bool {
	return false
}
