package tests

import (
	"slices"
	"testing"

	"loop.example/linkstaterouting/impl"
)

func TestDistancesAreLeastCosts(t *testing.T) {
	forValid(t, func(t *testing.T, g impl.Graph) {
		for from, want := range leastCosts(g) {
			if got := impl.Distances(g, from); !slices.Equal(got, want) {
				t.Errorf("Distances(%v, %d) is %v", g, from, got)
			}
		}
	})
}

func TestDistancesByHand(t *testing.T) {
	if got := impl.Distances(square(), 0); !slices.Equal(got, []int{0, 2, 4, 6, 3}) {
		t.Errorf("the distances from 0 are %v", got)
	}
	if got := impl.Distances(impl.Graph{Nodes: 3, Links: []impl.Link{{A: 0, B: 2, Cost: 20}}}, 2); !slices.Equal(got, []int{20, -1, 0}) {
		t.Errorf("the distances from 2 are %v", got)
	}
}

func TestDistancesInvalid(t *testing.T) {
	forValid(t, func(t *testing.T, g impl.Graph) {
		for _, from := range outside(g.Nodes) {
			if got := impl.Distances(g, from); len(got) != 0 {
				t.Errorf("Distances(%v, %d) is %v", g, from, got)
			}
		}
	})
	forInvalid(t, func(t *testing.T, g impl.Graph) {
		for from := -1; from <= 8; from++ {
			if got := impl.Distances(g, from); len(got) != 0 {
				t.Errorf("Distances(%v, %d) is %v", g, from, got)
			}
		}
	})
}

func TestDistancesShareNoMemory(t *testing.T) {
	g, untouched := guarded(square())
	spoil(impl.Distances(g, 1), -5)
	if !untouched() || !slices.Equal(impl.Distances(g, 1), []int{2, 0, 2, 4, 5}) {
		t.Errorf("the graph has become %v", g)
	}
}
