package tests

import (
	"math"
	"slices"
	"testing"

	"loop.example/linkstaterouting/impl"
)

// adj is an adjacency.
func adj(state int, age int) impl.Adjacency {
	return impl.Adjacency{State: state, Age: age}
}

// validAdjacencies returns all valid adjacencies.
func validAdjacencies() []impl.Adjacency {
	list := []impl.Adjacency{{}}
	for state := 1; state <= 3; state++ {
		for age := range 4 {
			list = append(list, adj(state, age))
		}
	}
	return list
}

// invalidAdjacencies returns adjacencies whose state or age is out of range, and some with the state AdjDown and an age.
func invalidAdjacencies() []impl.Adjacency {
	list := []impl.Adjacency{}
	for _, n := range append(outside(4), 4, 5, 6) {
		for inside := range 4 {
			list = append(list, adj(n, inside), adj(inside, n))
		}
		list = append(list, adj(n, n))
	}
	return append(list, adj(0, 1), adj(0, 2), adj(0, 3))
}

// nodeLists returns all ascending lists of nodes.
func nodeLists() [][]int {
	lists := [][]int{nil}
	for set := range 1 << impl.MaxNodes {
		list := []int{}
		for n := range impl.MaxNodes {
			if set>>n&1 == 1 {
				list = append(list, n)
			}
		}
		lists = append(lists, list)
	}
	return lists
}

// invalidNodeLists returns lists that do not ascend, or have a number that is not a node.
func invalidNodeLists() [][]int {
	lists := [][]int{
		{0, 1, 2, 3, 4, 5, 6, 7, 7},
		{0, 0, 1, 2, 3, 4, 5, 6, 7},
		{0, 1, 2, 3, 4, 5, 6, 7, 8},
		{-1, 0, 1, 2, 3, 4, 5, 6, 7},
		{7, 6, 5, 4, 3, 2, 1, 0},
		{0, 1, 2, 3, 4, 5, 7, 6},
		{1, 0, 2, 3, 4, 5, 6, 7},
		slices.Repeat([]int{3}, 1<<10),
		slices.Repeat([]int{0, 1, 2, 3}, 1<<10),
		make([]int, 1<<10),
	}
	for _, n := range outside(impl.MaxNodes) {
		lists = append(lists, []int{n}, []int{n, 3}, []int{3, n}, []int{1, n, 3}, []int{n, n})
	}
	for a := range 8 {
		for b := range a + 1 {
			lists = append(lists, []int{a, b}, []int{a, b, 7}, []int{0, a, b})
		}
	}
	return lists
}

// hello is AdjacencyHello with valid arguments.
func hello(t *testing.T, a impl.Adjacency, me int, heard []int) impl.Adjacency {
	t.Helper()
	got, ok := impl.AdjacencyHello(a, me, heard)
	if !ok || !impl.AdjacencyValid(got) {
		t.Fatalf("AdjacencyHello(%v, %d, %v) is %v, %v", a, me, heard, got, ok)
	}
	return got
}

// forHellos runs a check on every hello to every node in every valid adjacency.
func forHellos(check func(a impl.Adjacency, me int, heard []int)) {
	lists := nodeLists()
	for _, a := range validAdjacencies() {
		for me := range impl.MaxNodes {
			for _, heard := range lists {
				check(a, me, heard)
			}
		}
	}
}

// forSyncs runs a check on every valid adjacency with two lists of announcements.
func forSyncs(check func(a impl.Adjacency, mine []impl.Lsa, other []impl.Lsa)) {
	list := validAdjacencies()
	forDbPairs(func(db []impl.Lsa, other []impl.Lsa) {
		for _, a := range list {
			check(a, db, other)
		}
	})
}

// expectNoAdjacency checks what the functions say of an adjacency that is not valid.
func expectNoAdjacency(t *testing.T, a impl.Adjacency) {
	t.Helper()
	if impl.AdjacencyValid(a) {
		t.Errorf("AdjacencyValid(%v) is true", a)
	}
	for _, heard := range [][]int{nil, {3}, {0, 1, 2, 4, 5, 6, 7}, {0, 1, 2, 3, 4, 5, 6, 7}, {8}, {4, 3}} {
		expectNoHello(t, a, 3, heard)
		expectNoHello(t, a, 8, heard)
	}
	if got := impl.AdjacencyTick(a); got != adj(0, 0) {
		t.Errorf("AdjacencyTick(%v) is %v", a, got)
	}
	for _, mine := range [][]impl.Lsa{nil, {lsa(3, 1)}, everyone(8, 2), {lsa(8, 1)}} {
		for _, other := range [][]impl.Lsa{nil, {lsa(3, 1)}, everyone(8, 2), {lsa(8, 1)}} {
			expectNoSync(t, a, mine, other)
		}
	}
}

// expectNoHello checks that a hello is invalid.
func expectNoHello(t *testing.T, a impl.Adjacency, me int, heard []int) {
	t.Helper()
	if got, ok := impl.AdjacencyHello(a, me, heard); ok || got != adj(0, 0) {
		t.Errorf("AdjacencyHello(%v, %d, %v) is %v, %v", a, me, heard, got, ok)
	}
}

// expectNoSync checks that a comparison is invalid.
func expectNoSync(t *testing.T, a impl.Adjacency, mine []impl.Lsa, other []impl.Lsa) {
	t.Helper()
	if got := impl.AdjacencySync(a, mine, other); got != adj(0, 0) {
		t.Errorf("AdjacencySync(%v, %v, %v) is %v", a, mine, other, got)
	}
}

func TestAdjacencyConstants(t *testing.T) {
	if impl.DeadTime != 4 || impl.AdjDown != 0 || impl.AdjInit != 1 || impl.AdjTwoWay != 2 || impl.AdjFull != 3 {
		t.Errorf("the constants are %d, %d, %d, %d, %d", impl.DeadTime, impl.AdjDown, impl.AdjInit, impl.AdjTwoWay, impl.AdjFull)
	}
}

func TestAdjacencyValidAccepts(t *testing.T) {
	for _, a := range validAdjacencies() {
		if !impl.AdjacencyValid(a) {
			t.Errorf("AdjacencyValid(%v) is false", a)
		}
	}
}

func TestAdjacencyValidRejects(t *testing.T) {
	for _, a := range invalidAdjacencies() {
		expectNoAdjacency(t, a)
	}
}

// All states and ages in the ranges and around them.
func TestAdjacencyValidOfAllStatesAndAges(t *testing.T) {
	for state := -3; state <= 7; state++ {
		for age := -3; age <= 7; age++ {
			want := state == 0 && age == 0 || state >= 1 && state <= 3 && age >= 0 && age <= 3
			if got := impl.AdjacencyValid(adj(state, age)); got != want {
				t.Errorf("AdjacencyValid(%v) is %v", adj(state, age), got)
			}
		}
	}
}

// Promise 83, in each state, and promise 84 for the same hello once more.
func TestAdjacencyHelloByHand(t *testing.T) {
	for _, c := range []struct {
		name  string
		a     impl.Adjacency
		me    int
		heard []int
		want  impl.Adjacency
	}{
		{"down, not heard", adj(impl.AdjDown, 0), 3, []int{1, 2}, adj(impl.AdjInit, 0)},
		{"down, nobody heard", adj(impl.AdjDown, 0), 0, nil, adj(impl.AdjInit, 0)},
		{"down, heard", adj(impl.AdjDown, 0), 3, []int{1, 3}, adj(impl.AdjTwoWay, 0)},
		{"init, not heard", adj(impl.AdjInit, 2), 3, []int{2, 4}, adj(impl.AdjInit, 0)},
		{"init at once, not heard", adj(impl.AdjInit, 0), 3, []int{}, adj(impl.AdjInit, 0)},
		{"init, heard", adj(impl.AdjInit, 3), 3, []int{3}, adj(impl.AdjTwoWay, 0)},
		{"init at once, heard", adj(impl.AdjInit, 0), 7, []int{6, 7}, adj(impl.AdjTwoWay, 0)},
		{"two-way, not heard", adj(impl.AdjTwoWay, 1), 0, []int{1, 7}, adj(impl.AdjInit, 0)},
		{"two-way, nobody heard", adj(impl.AdjTwoWay, 3), 7, nil, adj(impl.AdjInit, 0)},
		{"two-way, heard", adj(impl.AdjTwoWay, 3), 0, []int{0, 7}, adj(impl.AdjTwoWay, 0)},
		{"two-way at once, heard", adj(impl.AdjTwoWay, 0), 5, []int{4, 5, 6}, adj(impl.AdjTwoWay, 0)},
		{"full, not heard", adj(impl.AdjFull, 2), 7, []int{0, 1, 2, 3, 4, 5, 6}, adj(impl.AdjInit, 0)},
		{"full at once, nobody heard", adj(impl.AdjFull, 0), 0, []int{}, adj(impl.AdjInit, 0)},
		{"full, heard", adj(impl.AdjFull, 3), 7, []int{0, 1, 2, 3, 4, 5, 6, 7}, adj(impl.AdjFull, 0)},
		{"full at once, heard", adj(impl.AdjFull, 0), 0, []int{0}, adj(impl.AdjFull, 0)},
	} {
		t.Run(c.name, func(t *testing.T) {
			once := hello(t, c.a, c.me, c.heard)
			if once != c.want {
				t.Errorf("AdjacencyHello(%v, %d, %v) is %v, not %v", c.a, c.me, c.heard, once, c.want)
			}
			if twice := hello(t, once, c.me, c.heard); twice != c.want {
				t.Errorf("AdjacencyHello(%v, %d, %v) is %v, and then %v", c.a, c.me, c.heard, once, twice)
			}
		})
	}
}

// Promise 83. From lower states than AdjTwoWay the state is exactly AdjTwoWay, and so it is from this one.
func TestAdjacencyHelloOfAllLists(t *testing.T) {
	forHellos(func(a impl.Adjacency, me int, heard []int) {
		want := adj(1, 0)
		if slices.Contains(heard, me) {
			want.State = max(a.State, 2)
		}
		if got := hello(t, a, me, heard); got != want {
			t.Fatalf("AdjacencyHello(%v, %d, %v) is %v, not %v", a, me, heard, got, want)
		}
	})
}

// Promise 84.
func TestAdjacencyHelloAgainChangesNothing(t *testing.T) {
	forHellos(func(a impl.Adjacency, me int, heard []int) {
		once := hello(t, a, me, heard)
		if twice := hello(t, once, me, heard); once != twice {
			t.Fatalf("AdjacencyHello(%v, %d, %v) is %v, and then %v", a, me, heard, once, twice)
		}
	})
}

// Promise 85. At any age the state stays, and only in a hello that this node is part of.
func TestAdjacencyHelloKeepsFull(t *testing.T) {
	for _, heard := range nodeLists() {
		for me := range impl.MaxNodes {
			for age := range impl.DeadTime {
				got := hello(t, adj(impl.AdjFull, age), me, heard)
				if (got.State == impl.AdjFull) != slices.Contains(heard, me) {
					t.Fatalf("AdjacencyHello(%v, %d, %v) is %v", adj(impl.AdjFull, age), me, heard, got)
				}
			}
		}
	}
}

func TestAdjacencyHelloInvalid(t *testing.T) {
	for _, a := range validAdjacencies() {
		for _, me := range outside(impl.MaxNodes) {
			for _, heard := range [][]int{nil, {0}, {7}, {0, 1, 2, 3, 4, 5, 6, 7}, {me}} {
				expectNoHello(t, a, me, heard)
			}
		}
		for _, heard := range invalidNodeLists() {
			for me := -1; me <= 8; me++ {
				expectNoHello(t, a, me, heard)
			}
		}
	}
	for _, a := range invalidAdjacencies() {
		for me := range impl.MaxNodes {
			expectNoHello(t, a, me, nil)
			expectNoHello(t, a, me, []int{me})
		}
	}
}

// All orders of three numbers.
func TestAdjacencyHelloIfNodesAscend(t *testing.T) {
	for a := -1; a <= 8; a++ {
		for b := -1; b <= 8; b++ {
			for c := -1; c <= 8; c++ {
				heard := []int{a, b, c}
				if got, ok := impl.AdjacencyHello(adj(1, 1), 3, heard); ok != (0 <= a && a < b && b < c && c < 8) {
					t.Errorf("AdjacencyHello of %v is %v, %v", heard, got, ok)
				}
			}
		}
	}
}

func TestAdjacencyTickByHand(t *testing.T) {
	for _, c := range []struct {
		name string
		a    impl.Adjacency
		want impl.Adjacency
	}{
		{"down", adj(impl.AdjDown, 0), adj(impl.AdjDown, 0)},
		{"init, after a hello", adj(impl.AdjInit, 0), adj(impl.AdjInit, 1)},
		{"init, last but one", adj(impl.AdjInit, impl.DeadTime-2), adj(impl.AdjInit, impl.DeadTime-1)},
		{"init, last", adj(impl.AdjInit, impl.DeadTime-1), adj(impl.AdjDown, 0)},
		{"two-way, after a hello", adj(impl.AdjTwoWay, 0), adj(impl.AdjTwoWay, 1)},
		{"two-way, in between", adj(impl.AdjTwoWay, 1), adj(impl.AdjTwoWay, 2)},
		{"two-way, last but one", adj(impl.AdjTwoWay, impl.DeadTime-2), adj(impl.AdjTwoWay, impl.DeadTime-1)},
		{"two-way, last", adj(impl.AdjTwoWay, impl.DeadTime-1), adj(impl.AdjDown, 0)},
		{"full, after a hello", adj(impl.AdjFull, 0), adj(impl.AdjFull, 1)},
		{"full, last but one", adj(impl.AdjFull, impl.DeadTime-2), adj(impl.AdjFull, impl.DeadTime-1)},
		{"full, last", adj(impl.AdjFull, impl.DeadTime-1), adj(impl.AdjDown, 0)},
	} {
		t.Run(c.name, func(t *testing.T) {
			if got := impl.AdjacencyTick(c.a); got != c.want {
				t.Errorf("AdjacencyTick(%v) is %v, not %v", c.a, got, c.want)
			}
		})
	}
}

// Promise 86.
func TestAdjacencyTickKeepsStateOrIsDown(t *testing.T) {
	for _, a := range validAdjacencies() {
		got := impl.AdjacencyTick(a)
		if !impl.AdjacencyValid(got) || got.State != a.State && got.State != 0 {
			t.Errorf("AdjacencyTick(%v) is %v", a, got)
		}
		if want := adj(a.State, a.Age+1); got != want && (a.State != 0 && a.Age != 3 || got != adj(0, 0)) {
			t.Errorf("AdjacencyTick(%v) is %v, not %v", a, got, want)
		}
	}
}

// Promise 87. A dead neighbour stays dead.
func TestAdjacencyTicksAfterHello(t *testing.T) {
	forHellos(func(a impl.Adjacency, me int, heard []int) {
		after := hello(t, a, me, heard)
		now := after
		for i := 1; i < impl.DeadTime; i++ {
			now = impl.AdjacencyTick(now)
			if now != adj(after.State, i) {
				t.Fatalf("%d ticks after AdjacencyHello(%v, %d, %v) the adjacency is %v", i, a, me, heard, now)
			}
		}
		for i := range 3 {
			now = impl.AdjacencyTick(now)
			if now != adj(impl.AdjDown, 0) {
				t.Fatalf("%d ticks after AdjacencyHello(%v, %d, %v) the adjacency is %v", impl.DeadTime+i, a, me, heard, now)
			}
		}
	})
}

// A hello in time begins the wait anew.
func TestAdjacencyHelloInTime(t *testing.T) {
	now := adj(impl.AdjFull, 0)
	for range 5 {
		for range impl.DeadTime - 1 {
			now = impl.AdjacencyTick(now)
		}
		now = hello(t, now, 4, []int{2, 4})
		if now != adj(impl.AdjFull, 0) {
			t.Fatalf("the adjacency is %v", now)
		}
	}
}

// Promises 88 and 90 where something is missing in neither direction, in one and in both, in every state and at every age.
func TestAdjacencySyncByHand(t *testing.T) {
	db := []impl.Lsa{lsa(1, 1, 0, 1), lsa(3, 50, 1, 2), lsa(5, 99)}
	for _, c := range []struct {
		name  string
		mine  []impl.Lsa
		other []impl.Lsa
		same  bool
	}{
		{"both empty", nil, []impl.Lsa{}, true},
		{"equal", db, db, true},
		{"equal numbers, other content", db, []impl.Lsa{lsa(1, 1), lsa(3, 50, 2, 2), lsa(5, 99, 0, 1)}, true},
		{"only mine is empty", nil, db, false},
		{"only the other one is empty", db, nil, false},
		{"mine lacks one", db[:2], db, false},
		{"the other one lacks one", db, db[1:], false},
		{"mine has an older one", []impl.Lsa{db[0], lsa(3, 49, 1, 2), db[2]}, db, false},
		{"the other one has an older one", db, []impl.Lsa{db[0], db[1], lsa(5, 98)}, false},
		{"mine lacks one and has a newer one", []impl.Lsa{db[0], lsa(3, 51, 1, 2)}, db, false},
		{"each lacks one", db[1:], db[:2], false},
		{"each has an older one", []impl.Lsa{lsa(1, 2), lsa(3, 1)}, []impl.Lsa{lsa(1, 1), lsa(3, 2)}, false},
		{"different origins", []impl.Lsa{lsa(0, 1)}, []impl.Lsa{lsa(7, 1)}, false},
	} {
		t.Run(c.name, func(t *testing.T) {
			for _, a := range validAdjacencies() {
				want := a
				if a.State == impl.AdjTwoWay && c.same {
					want = adj(impl.AdjFull, a.Age)
				} else if a.State == impl.AdjFull && !c.same {
					want = adj(impl.AdjTwoWay, a.Age)
				}
				once := impl.AdjacencySync(a, c.mine, c.other)
				if once != want {
					t.Errorf("AdjacencySync(%v, %v, %v) is %v, not %v", a, c.mine, c.other, once, want)
				}
				if twice := impl.AdjacencySync(once, c.mine, c.other); twice != want {
					t.Errorf("AdjacencySync(%v, %v, %v) is %v, and then %v", a, c.mine, c.other, once, twice)
				}
			}
		})
	}
}

// Promise 88. The age is always kept.
func TestAdjacencySyncIsFullIfNothingIsMissing(t *testing.T) {
	forDbPairs(func(db []impl.Lsa, other []impl.Lsa) {
		state := impl.AdjTwoWay
		if len(missingOf(db, other)) == 0 && len(missingOf(other, db)) == 0 {
			state = impl.AdjFull
		}
		for _, a := range validAdjacencies() {
			want := a
			if a.State >= impl.AdjTwoWay {
				want.State = state
			}
			if got := impl.AdjacencySync(a, db, other); got != want {
				t.Fatalf("AdjacencySync(%v, %v, %v) is %v, not %v", a, db, other, got, want)
			}
		}
	})
}

// Promise 89. Each node may merge in its own direction: of equal sequence numbers the content may differ then.
func TestAdjacencySyncAfterMergeIsFull(t *testing.T) {
	forDbPairs(func(db []impl.Lsa, other []impl.Lsa) {
		mine, theirs := merged(t, db, other), merged(t, other, db)
		for _, a := range validAdjacencies() {
			both := hello(t, a, 3, []int{3, 5})
			if got := impl.AdjacencySync(both, mine, theirs); got != adj(impl.AdjFull, 0) {
				t.Fatalf("AdjacencySync(%v, %v, %v) is %v", both, mine, theirs, got)
			}
			if got := impl.AdjacencySync(both, mine, mine); got != adj(impl.AdjFull, 0) {
				t.Fatalf("AdjacencySync(%v, %v, %v) is %v", both, mine, mine, got)
			}
		}
	})
}

// Promise 90.
func TestAdjacencySyncAgainChangesNothing(t *testing.T) {
	forSyncs(func(a impl.Adjacency, mine []impl.Lsa, other []impl.Lsa) {
		once := impl.AdjacencySync(a, mine, other)
		if twice := impl.AdjacencySync(once, mine, other); once != twice {
			t.Fatalf("AdjacencySync(%v, %v, %v) is %v, and then %v", a, mine, other, once, twice)
		}
	})
}

// Invalid lists have no missing announcements, but must not be taken for equal ones.
func TestAdjacencySyncInvalid(t *testing.T) {
	valid := [][]impl.Lsa{nil, {lsa(3, 5, 1, 4)}, truth(square(), 2), everyone(8, 99)}
	for _, db := range invalidDbs() {
		for _, a := range validAdjacencies() {
			for _, with := range append(valid, db) {
				expectNoSync(t, a, db, with)
				expectNoSync(t, a, with, db)
			}
		}
	}
	for _, a := range invalidAdjacencies() {
		for _, db := range valid {
			expectNoSync(t, a, db, db)
			expectNoSync(t, a, db, nil)
			expectNoSync(t, a, nil, db)
		}
	}
}

// A neighbour comes up, exchanges announcements, forgets this node and dies.
func TestAdjacencyOfNeighbourThatComesAndGoes(t *testing.T) {
	mine, other := []impl.Lsa{lsa(2, 4, 5, 1)}, []impl.Lsa{lsa(5, 7, 2, 1)}
	all := merged(t, mine, other)
	sync := func(mine []impl.Lsa, other []impl.Lsa) func(impl.Adjacency) impl.Adjacency {
		return func(a impl.Adjacency) impl.Adjacency { return impl.AdjacencySync(a, mine, other) }
	}
	hears := func(heard ...int) func(impl.Adjacency) impl.Adjacency {
		return func(a impl.Adjacency) impl.Adjacency { return hello(t, a, 2, heard) }
	}
	now := impl.Adjacency{}
	for i, step := range []struct {
		does func(impl.Adjacency) impl.Adjacency
		want impl.Adjacency
	}{
		{impl.AdjacencyTick, adj(0, 0)},
		{sync(all, all), adj(0, 0)},
		{hears(), adj(1, 0)},
		{sync(all, all), adj(1, 0)},
		{impl.AdjacencyTick, adj(1, 1)},
		{sync(mine, other), adj(1, 1)},
		{hears(1, 2), adj(2, 0)},
		{impl.AdjacencyTick, adj(2, 1)},
		{sync(mine, other), adj(2, 1)},
		{sync(all, other), adj(2, 1)},
		{sync(all, all), adj(3, 1)},
		{impl.AdjacencyTick, adj(3, 2)},
		{sync(all, all), adj(3, 2)},
		{hears(2), adj(3, 0)},
		{impl.AdjacencyTick, adj(3, 1)},
		{sync(mine, all), adj(2, 1)},
		{hears(2), adj(2, 0)},
		{sync(all, all), adj(3, 0)},
		{hears(0, 1, 3), adj(1, 0)},
		{impl.AdjacencyTick, adj(1, 1)},
		{impl.AdjacencyTick, adj(1, 2)},
		{impl.AdjacencyTick, adj(1, 3)},
		{sync(all, all), adj(1, 3)},
		{impl.AdjacencyTick, adj(0, 0)},
		{hears(2), adj(2, 0)},
	} {
		now = step.does(now)
		if now != step.want {
			t.Fatalf("after step %d the adjacency is %v, not %v", i, now, step.want)
		}
	}
}

// The general rules: arguments are not changed, not even behind their ends.
func TestAdjacenciesChangeNoArguments(t *testing.T) {
	for _, heard := range append(nodeLists(), invalidNodeLists()...) {
		memory := append(slices.Clone(heard), math.MaxInt, math.MinInt)
		before := slices.Clone(memory)
		for _, a := range append(validAdjacencies(), adj(0, 1)) {
			impl.AdjacencyHello(a, 3, memory[:len(heard)])
		}
		if !slices.Equal(memory, before) {
			t.Fatalf("%v has become %v", before, memory)
		}
	}
	dbs := validDbs()
	for i, valid := range dbs {
		mine, untouched := guardedDb(valid)
		other, untouchedToo := guardedDb(dbs[(5*i+1)%len(dbs)])
		for _, a := range append(validAdjacencies(), adj(0, 1)) {
			impl.AdjacencySync(a, mine, other)
			impl.AdjacencySync(a, mine, mine)
		}
		if !untouched() || !untouchedToo() {
			t.Fatalf("announcements have been changed: %v, %v", mine, other)
		}
	}
}
