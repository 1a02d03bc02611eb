// Package impl models link-state routing; each file is a chapter of the specification.
package impl

import (
	"iter"
	"slices"
)

// MaxNodes is the largest number of nodes, which are numbered from 0.
const MaxNodes = 8

// MaxLinks is the largest number of links.
const MaxLinks = 14

// MaxCost is the largest cost of a link.
const MaxCost = 20

// Link is a link between two nodes, A and the greater B, with a cost in both directions.
type Link struct {
	A    int
	B    int
	Cost int
}

// Graph is a number of nodes with their links.
type Graph struct {
	Nodes int
	Links []Link
}

// GraphValid reports whether g is valid.
func GraphValid(g Graph) bool {
	if g.Nodes < 1 || g.Nodes > MaxNodes || len(g.Links) > MaxLinks {
		return false
	}
	for i, l := range g.Links {
		if !g.allows(l) || i > 0 && !g.Links[i-1].before(l) {
			return false
		}
	}
	return true
}

// GraphLink returns the index of the link between two nodes.
func GraphLink(g Graph, a int, b int) int {
	if !GraphValid(g) {
		return -1
	}
	for neighbour, link := range g.neighbours(a) {
		if neighbour == b {
			return link
		}
	}
	return -1
}

// GraphNeighbours returns the nodes that have a link with a node.
func GraphNeighbours(g Graph, n int) []int {
	list := []int{}
	if !GraphValid(g) {
		return list
	}
	for neighbour := range g.neighbours(n) {
		list = append(list, neighbour)
	}
	return list
}

// GraphWithout returns the graph without a link.
func GraphWithout(g Graph, link int) (Graph, bool) {
	if !GraphValid(g) || !g.hasLink(link) {
		return Graph{}, false
	}
	return g.keep(func(i int, _ Link) bool { return i != link }), true
}

// GraphIsolate returns the graph without the links of a node.
func GraphIsolate(g Graph, n int) (Graph, bool) {
	if !GraphValid(g) || !g.hasNode(n) {
		return Graph{}, false
	}
	return g.keep(func(_ int, l Link) bool { return !l.touches(n) }), true
}

// GraphCost returns the graph with another cost of a link.
func GraphCost(g Graph, link int, cost int) (Graph, bool) {
	if !GraphValid(g) || !g.hasLink(link) || !costValid(cost) {
		return Graph{}, false
	}
	links := slices.Clone(g.Links)
	links[link].Cost = cost
	return Graph{Nodes: g.Nodes, Links: links}, true
}

// GraphReach returns the nodes that can be reached from a node.
func GraphReach(g Graph, n int) []int {
	list := []int{}
	for node, distance := range Distances(g, n) {
		if distance != unreached {
			list = append(list, node)
		}
	}
	return list
}

// costValid reports whether a link can have the cost.
func costValid(cost int) bool {
	return cost >= 1 && cost <= MaxCost
}

// before reports whether l precedes the other link in a graph.
func (l Link) before(other Link) bool {
	return l.A < other.A || l.A == other.A && l.B < other.B
}

// touches reports whether node n is an end of l.
func (l Link) touches(n int) bool {
	return l.A == n || l.B == n
}

// across returns the end of l that is not the end n.
func (l Link) across(n int) int {
	if l.A == n {
		return l.B
	}
	return l.A
}

// hasNode reports whether the node exists.
func (g Graph) hasNode(n int) bool {
	return n >= 0 && n < g.Nodes
}

// hasLink reports whether the link exists.
func (g Graph) hasLink(link int) bool {
	return link >= 0 && link < len(g.Links)
}

// allows reports whether l, taken alone, can be a link of the graph.
func (g Graph) allows(l Link) bool {
	return g.hasNode(l.A) && g.hasNode(l.B) && l.A < l.B && costValid(l.Cost)
}

// neighbours enumerates the neighbours of node n, each with the index of its link.
// They are ascending without sorting: the links in which n is the greater end
// precede, by their A, those in which it is the smaller one.
func (g Graph) neighbours(n int) iter.Seq2[int, int] {
	return func(yield func(int, int) bool) {
		for i, l := range g.Links {
			if l.touches(n) && !yield(l.across(n), i) {
				return
			}
		}
	}
}

// keep returns the graph with only the links that are wanted, in new memory.
func (g Graph) keep(wanted func(int, Link) bool) Graph {
	links := []Link{}
	for i, l := range g.Links {
		if wanted(i, l) {
			links = append(links, l)
		}
	}
	return Graph{Nodes: g.Nodes, Links: links}
}
