package tests

import (
	"math"
	"math/rand"
	"slices"
	"testing"

	"loop.example/linkstaterouting/impl"
)

// oddSeqs are numbers that lie on, just outside or far outside the range of sequence numbers.
var oddSeqs = []int{math.MinInt, -99, -1, 0, 1, 2, 98, 99, 100, 101, math.MaxInt}

// lsa is an announcement with neighbours and their costs, which follow each other in numbers.
func lsa(origin int, seq int, numbers ...int) impl.Lsa {
	l := impl.Lsa{Origin: origin, Seq: seq}
	for i := 0; i < len(numbers); i += 2 {
		l.Ends = append(l.Ends, impl.End{Node: numbers[i], Cost: numbers[i+1]})
	}
	return l
}

// truth has the announcements of all nodes of a graph, found by looking at every pair of nodes.
func truth(g impl.Graph, seq int) []impl.Lsa {
	db := []impl.Lsa{}
	for n := range g.Nodes {
		l := impl.Lsa{Origin: n, Seq: seq}
		for _, m := range neighboursOf(g, n) {
			l.Ends = append(l.Ends, impl.End{Node: m, Cost: g.Links[linkBetween(g, n, m)].Cost})
		}
		db = append(db, l)
	}
	return db
}

// everyone has an announcement of each of the first nodes with all of these as neighbours, and different costs at both ends.
func everyone(nodes int, seq int) []impl.Lsa {
	db := []impl.Lsa{}
	for n := range nodes {
		l := impl.Lsa{Origin: n, Seq: seq}
		for m := range nodes {
			if m != n {
				l.Ends = append(l.Ends, impl.End{Node: m, Cost: 1 + (3*n+m)%impl.MaxCost})
			}
		}
		db = append(db, l)
	}
	return db
}

// randomLsa returns a valid announcement of a node. Sequence numbers are often equal, and otherwise close together.
func randomLsa(r *rand.Rand, origin int, density float64) impl.Lsa {
	seqs := []int{1, 2, 3, 98, 99}
	l := impl.Lsa{Origin: origin, Seq: seqs[r.Intn(len(seqs))]}
	for n := range impl.MaxNodes {
		if n != origin && r.Float64() < density {
			l.Ends = append(l.Ends, impl.End{Node: n, Cost: 1 + r.Intn(impl.MaxCost)})
		}
	}
	return l
}

// randomDb returns a valid list of announcements.
func randomDb(r *rand.Rand) []impl.Lsa {
	db := []impl.Lsa{}
	part, density := max(r.Float64(), r.Float64()), max(r.Float64(), r.Float64())
	for origin := range impl.MaxNodes {
		if r.Float64() < part {
			db = append(db, randomLsa(r, origin, density))
		}
	}
	return db
}

// validDbs returns lists of announcements: those of the edge cases, and many others. They are always the same ones.
func validDbs() [][]impl.Lsa {
	dbs := [][]impl.Lsa{
		nil,
		{},
		{lsa(3, 5, 1, 4)},
		{lsa(0, 1)},
		{lsa(7, 99)},
		{lsa(0, 1, 7, 1), lsa(7, 99, 0, 20)},
		{lsa(0, 1, 1, 3), lsa(1, 1)},
		{lsa(0, 1), lsa(1, 1, 0, 3)},
		{lsa(2, 4, 5, 6)},
		{lsa(0, 1, 1, 3), lsa(1, 1, 0, 9)},
		{lsa(0, 1, 1, 9), lsa(1, 1, 0, 3)},
		{lsa(0, 2, 1, 4), lsa(1, 2, 0, 4)},
		{lsa(4, 1, 6, 2), lsa(5, 98, 6, 3, 7, 4), lsa(6, 99, 4, 2, 5, 3)},
		truth(square(), 1),
		truth(square(), 2),
		truth(fullGraph(), 99),
		truth(islands(), 1),
		truth(impl.Graph{Nodes: impl.MaxNodes}, 3),
		everyone(5, 2),
		everyone(6, 2),
		everyone(8, 99),
	}
	r := rand.New(rand.NewSource(11))
	for range 200 {
		dbs = append(dbs, randomDb(r))
	}
	return dbs
}

// validLsas returns announcements: those of the edge cases, and others. They are always the same ones.
func validLsas() []impl.Lsa {
	list := []impl.Lsa{
		lsa(0, 1), lsa(7, 1), lsa(0, 99), lsa(7, 99), {Origin: 3, Seq: 2, Ends: []impl.End{}},
		lsa(0, 1, 1, 1), lsa(0, 1, 7, 20), lsa(7, 2, 0, 20), lsa(7, 2, 6, 1),
		lsa(0, 3, 1, 2, 4, 3), lsa(3, 98, 2, 2, 4, 3), lsa(4, 3, 0, 5, 7, 5),
	}
	list = append(list, everyone(8, 2)...)
	r := rand.New(rand.NewSource(12))
	for i := range 60 {
		list = append(list, randomLsa(r, i%impl.MaxNodes, r.Float64()))
	}
	return list
}

// invalidLsas returns announcements that break one rule each.
func invalidLsas() []impl.Lsa {
	list := []impl.Lsa{
		{},
		lsa(3, 1, 3, 1),             // the origin itself
		lsa(3, 1, 2, 1, 3, 1, 4, 1), // the origin among others
		lsa(0, 1, 0, 1, 1, 1),       // the origin at the beginning
		lsa(7, 1, 6, 1, 7, 1),       // the origin at the end
		lsa(3, 1, 4, 1, 4, 1),       // a neighbour twice
		lsa(3, 1, 4, 1, 4, 2),       // with two costs
		lsa(3, 1, 2, 1, 1, 1),       // descending
		lsa(3, 1, 0, 1, 2, 1, 1, 1), // descending at the end
		lsa(3, 1, 2, 1, 0, 1, 1, 1), // descending at the beginning
		{Origin: 3, Seq: 1, Ends: make([]impl.End, 1<<12)},                  // very many
		{Origin: 3, Seq: 1, Ends: slices.Repeat(everyone(3, 1)[0].Ends, 8)}, // ascending again and again
	}
	for _, n := range outside(impl.MaxNodes) {
		list = append(list, lsa(n, 1), lsa(n, 1, 3, 4), lsa(3, 1, n, 4))
		if n < 0 {
			list = append(list, lsa(3, 1, n, 4, 0, 4))
		} else {
			list = append(list, lsa(3, 1, 0, 4, n, 4))
		}
	}
	for _, seq := range oddSeqs {
		if seq < 1 || seq > 99 {
			list = append(list, lsa(3, seq), lsa(3, seq, 0, 1, 7, 20))
		}
	}
	for _, cost := range oddNumbers {
		if cost < 1 || cost > impl.MaxCost {
			list = append(list, lsa(3, 1, 4, cost), lsa(3, 1, 0, cost, 1, 1), lsa(3, 1, 0, 1, 1, cost))
		}
	}
	return list
}

// invalidDbs returns lists that are not valid: with an announcement that is not, or with origins that do not ascend.
func invalidDbs() [][]impl.Lsa {
	dbs := [][]impl.Lsa{
		{lsa(1, 1, 2, 3), lsa(1, 1, 2, 3)},
		{lsa(1, 1), lsa(1, 2)},
		{lsa(1, 2), lsa(0, 1)},
		{lsa(0, 1), lsa(2, 1), lsa(1, 1)},
		{lsa(2, 1), lsa(0, 1), lsa(1, 1)},
		{lsa(0, 1), lsa(1, 1), lsa(2, 1), lsa(2, 1)},
		append(everyone(8, 1), lsa(0, 1)),
		append(everyone(8, 1), lsa(7, 2)),
		make([]impl.Lsa, 1<<12),
		slices.Repeat([]impl.Lsa{lsa(1, 1)}, 1<<10),
	}
	for _, l := range invalidLsas() {
		dbs = append(dbs, []impl.Lsa{l}, []impl.Lsa{l, lsa(7, 1, 0, 1)}, []impl.Lsa{lsa(0, 1, 7, 1), l}, []impl.Lsa{lsa(0, 1), l, lsa(7, 1)})
	}
	return dbs
}

// sameLsa reports whether both announcements are equal; it makes no difference between no slice and an empty one.
func sameLsa(l impl.Lsa, m impl.Lsa) bool {
	return l.Origin == m.Origin && l.Seq == m.Seq && slices.Equal(l.Ends, m.Ends)
}

// sameDb reports whether both lists are equal.
func sameDb(db []impl.Lsa, other []impl.Lsa) bool {
	return slices.EqualFunc(db, other, sameLsa)
}

// seqIn is the sequence number of an origin in a list, or 0 if there is none.
func seqIn(db []impl.Lsa, origin int) int {
	for _, l := range db {
		if l.Origin == origin {
			return l.Seq
		}
	}
	return 0
}

// seqsIn are the sequence numbers of all origins in a list.
func seqsIn(db []impl.Lsa) [impl.MaxNodes]int {
	seqs := [impl.MaxNodes]int{}
	for origin := range seqs {
		seqs[origin] = seqIn(db, origin)
	}
	return seqs
}

// costIn is the cost from one node to another one that a list announces, or 0 if it does not.
func costIn(db []impl.Lsa, origin int, to int) int {
	for _, l := range db {
		for _, e := range l.Ends {
			if l.Origin == origin && e.Node == to {
				return e.Cost
			}
		}
	}
	return 0
}

// putIn is what DbPut must return, found without a map.
func putIn(db []impl.Lsa, l impl.Lsa) ([]impl.Lsa, int) {
	switch seq := seqIn(db, l.Origin); {
	case seq == l.Seq:
		return db, 1
	case seq > l.Seq:
		return db, 2
	}
	list := slices.DeleteFunc(slices.Clone(db), func(m impl.Lsa) bool { return m.Origin == l.Origin })
	list = append(list, l)
	slices.SortFunc(list, func(m impl.Lsa, n impl.Lsa) int { return m.Origin - n.Origin })
	return list, 0
}

// mergeOf is what DbMerge must return.
func mergeOf(db []impl.Lsa, other []impl.Lsa) []impl.Lsa {
	for _, l := range other {
		db, _ = putIn(db, l)
	}
	return db
}

// missingOf is what DbMissing must return.
func missingOf(db []impl.Lsa, other []impl.Lsa) []int {
	list := []int{}
	for origin := range impl.MaxNodes {
		if seqIn(other, origin) > seqIn(db, origin) {
			list = append(list, origin)
		}
	}
	return list
}

// linksOf are the links between the first nodes that a list announces from both ends, found by looking at every pair.
func linksOf(nodes int, db []impl.Lsa) []impl.Link {
	links := []impl.Link{}
	for a := range nodes {
		for b := a + 1; b < nodes; b++ {
			there, back := costIn(db, a, b), costIn(db, b, a)
			if there != 0 && back != 0 {
				links = append(links, impl.Link{A: a, B: b, Cost: max(there, back)})
			}
		}
	}
	return links
}

// forDbPairs runs a check on every two valid lists, also equal ones.
func forDbPairs(check func(db []impl.Lsa, other []impl.Lsa)) {
	dbs := validDbs()
	for _, db := range dbs {
		for _, other := range dbs {
			check(db, other)
		}
	}
}

// changesOf returns announcements to put into a list: many, and for each that it has already
// those with the same content and with another one, with a smaller, the same and a greater sequence number.
func changesOf(db []impl.Lsa) []impl.Lsa {
	list := validLsas()
	for _, l := range db {
		for seq := max(l.Seq-1, 1); seq <= min(l.Seq+1, impl.MaxSeq); seq++ {
			list = append(list, impl.Lsa{Origin: l.Origin, Seq: seq, Ends: l.Ends}, lsa(l.Origin, seq), lsa(l.Origin, seq, (l.Origin+1)%8, 13))
		}
	}
	return list
}

// forPuts runs a check on putting an announcement into a valid list.
func forPuts(check func(db []impl.Lsa, l impl.Lsa)) {
	for _, db := range validDbs() {
		for _, l := range changesOf(db) {
			check(db, l)
		}
	}
}

// put is DbPut with valid arguments.
func put(t *testing.T, db []impl.Lsa, l impl.Lsa) ([]impl.Lsa, int) {
	t.Helper()
	list, result := impl.DbPut(db, l)
	if result == impl.PutInvalid || !impl.DbValid(list) {
		t.Fatalf("DbPut(%v, %v) is %v, %d", db, l, list, result)
	}
	return list, result
}

// merged is DbMerge of valid lists.
func merged(t *testing.T, db []impl.Lsa, other []impl.Lsa) []impl.Lsa {
	t.Helper()
	list, ok := impl.DbMerge(db, other)
	if !ok || !impl.DbValid(list) {
		t.Fatalf("DbMerge(%v, %v) is %v, %v", db, other, list, ok)
	}
	return list
}

// expectDbGraph checks DbGraph of a valid list with a possible number of nodes.
func expectDbGraph(t *testing.T, nodes int, db []impl.Lsa, links []impl.Link) {
	t.Helper()
	want, fits := impl.Graph{Nodes: nodes, Links: links}, len(links) <= 14
	if !fits {
		want = impl.Graph{}
	}
	if got, ok := impl.DbGraph(nodes, db); ok != fits || !sameGraph(got, want) || ok && !impl.GraphValid(got) {
		t.Errorf("DbGraph(%d, %v) is %v, %v, not %v", nodes, db, got, ok, want)
	}
}

// expectNoLsa checks what the functions say of an announcement that is not valid.
func expectNoLsa(t *testing.T, l impl.Lsa) {
	t.Helper()
	if impl.LsaValid(l) {
		t.Errorf("LsaValid(%v) is true", l)
	}
	for _, db := range [][]impl.Lsa{nil, {lsa(3, 1)}, {lsa(3, 99, 4, 5)}, truth(square(), 2), {l}, invalidDbs()[0]} {
		if got, result := impl.DbPut(db, l); result != 3 || len(got) != 0 {
			t.Errorf("DbPut(%v, %v) is %v, %d", db, l, got, result)
		}
	}
}

// expectNoDb checks what the functions say of a list that is not valid.
func expectNoDb(t *testing.T, db []impl.Lsa) {
	t.Helper()
	if impl.DbValid(db) {
		t.Errorf("DbValid(%v) is true", db)
	}
	for _, l := range []impl.Lsa{lsa(0, 1), lsa(3, 99, 4, 5), lsa(7, 2, 0, 1), {}} {
		if got, result := impl.DbPut(db, l); result != 3 || len(got) != 0 {
			t.Errorf("DbPut(%v, %v) is %v, %d", db, l, got, result)
		}
	}
	for _, pair := range [][2][]impl.Lsa{{db, db}, {db, nil}, {nil, db}, {db, everyone(8, 99)}, {everyone(8, 99), db}} {
		if got, ok := impl.DbMerge(pair[0], pair[1]); ok || len(got) != 0 {
			t.Errorf("DbMerge(%v, %v) is %v, %v", pair[0], pair[1], got, ok)
		}
		if got := impl.DbMissing(pair[0], pair[1]); len(got) != 0 {
			t.Errorf("DbMissing(%v, %v) is %v", pair[0], pair[1], got)
		}
	}
	for nodes := -1; nodes <= 9; nodes++ {
		if got, ok := impl.DbGraph(nodes, db); ok || !isZero(got) {
			t.Errorf("DbGraph(%d, %v) is %v, %v", nodes, db, got, ok)
		}
	}
}

func TestDatabaseConstants(t *testing.T) {
	if impl.MaxSeq != 99 || impl.PutNewer != 0 || impl.PutSame != 1 || impl.PutOlder != 2 || impl.PutInvalid != 3 {
		t.Errorf("the constants are %d, %d, %d, %d, %d", impl.MaxSeq, impl.PutNewer, impl.PutSame, impl.PutOlder, impl.PutInvalid)
	}
}

func TestLsaValidAccepts(t *testing.T) {
	list := validLsas()
	for origin := range 8 {
		for seq := 1; seq <= 99; seq++ {
			list = append(list, lsa(origin, seq))
		}
		for n := range 8 {
			for cost := 1; cost <= 20 && n != origin; cost++ {
				list = append(list, lsa(origin, 1, n, cost))
			}
		}
	}
	for _, l := range list {
		if !impl.LsaValid(l) {
			t.Errorf("LsaValid(%v) is false", l)
		}
	}
}

func TestLsaValidRejects(t *testing.T) {
	for _, l := range invalidLsas() {
		expectNoLsa(t, l)
	}
}

// All announcements of two neighbours with numbers that are nodes, or next to these.
func TestLsaValidOfAllPairsOfNeighbours(t *testing.T) {
	for origin := -1; origin <= 8; origin++ {
		for m := -1; m <= 8; m++ {
			for n := -1; n <= 8; n++ {
				l := lsa(origin, 1, m, 1, n, 20)
				want := origin >= 0 && origin < 8 && m >= 0 && m < n && n < 8 && m != origin && n != origin
				if got := impl.LsaValid(l); got != want {
					t.Errorf("LsaValid(%v) is %v", l, got)
				}
			}
		}
	}
}

// Promise 68.
func TestLsaOfHasAllLinks(t *testing.T) {
	forValid(t, func(t *testing.T, g impl.Graph) {
		for _, seq := range []int{1, 2, 50, 98, 99} {
			for n, want := range truth(g, seq) {
				if got, ok := impl.LsaOf(g, n, seq); !ok || !sameLsa(got, want) || !impl.LsaValid(got) {
					t.Errorf("LsaOf(%v, %d, %d) is %v, %v", g, n, seq, got, ok)
				}
			}
		}
	})
}

func TestLsaOfByHand(t *testing.T) {
	for _, c := range []struct {
		g    impl.Graph
		want impl.Lsa
	}{
		{square(), lsa(0, 3, 1, 2, 4, 3)},
		{square(), lsa(1, 1, 0, 2, 2, 2, 4, 6)},
		{square(), lsa(2, 99, 1, 2, 3, 2)},
		{square(), lsa(4, 98, 0, 3, 1, 6, 3, 3)},
		{islands(), lsa(6, 7)},
		{islands(), lsa(5, 7, 4, 2)},
		{impl.Graph{Nodes: 1}, lsa(0, 1)},
		{fullGraph(), lsa(2, 2, 0, 20, 1, 17, 3, 14)},
	} {
		if got, ok := impl.LsaOf(c.g, c.want.Origin, c.want.Seq); !ok || !sameLsa(got, c.want) {
			t.Errorf("LsaOf(%v, %d, %d) is %v, %v", c.g, c.want.Origin, c.want.Seq, got, ok)
		}
	}
}

func TestLsaOfInvalid(t *testing.T) {
	expectNone := func(t *testing.T, g impl.Graph, n int, seq int) {
		t.Helper()
		if got, ok := impl.LsaOf(g, n, seq); ok || !sameLsa(got, impl.Lsa{}) {
			t.Errorf("LsaOf(%v, %d, %d) is %v, %v", g, n, seq, got, ok)
		}
	}
	forValid(t, func(t *testing.T, g impl.Graph) {
		for _, n := range outside(g.Nodes) {
			expectNone(t, g, n, 1)
		}
		for _, seq := range oddSeqs {
			for n := range g.Nodes {
				if seq < 1 || seq > 99 {
					expectNone(t, g, n, seq)
				}
			}
		}
	})
	forInvalid(t, func(t *testing.T, g impl.Graph) {
		for n := -1; n <= 8; n++ {
			expectNone(t, g, n, 1)
		}
	})
}

// Promise 69. The origin is put where the neighbours stay ascending.
func TestLsaWithoutNeighbourOrWithItsOrigin(t *testing.T) {
	list := validLsas()
	for _, db := range validDbs() {
		list = append(list, db...)
	}
	for _, l := range list {
		for i := range l.Ends {
			less := impl.Lsa{Origin: l.Origin, Seq: l.Seq, Ends: slices.Delete(slices.Clone(l.Ends), i, i+1)}
			if !impl.LsaValid(less) {
				t.Errorf("LsaValid(%v) is false", less)
			}
		}
		place := slices.IndexFunc(l.Ends, func(e impl.End) bool { return e.Node > l.Origin })
		if place == -1 {
			place = len(l.Ends)
		}
		more := impl.Lsa{Origin: l.Origin, Seq: l.Seq, Ends: slices.Insert(slices.Clone(l.Ends), place, impl.End{Node: l.Origin, Cost: 1})}
		if impl.LsaValid(more) {
			t.Errorf("LsaValid(%v) is true", more)
		}
	}
}

func TestDbValidAccepts(t *testing.T) {
	for _, db := range validDbs() {
		if !impl.DbValid(db) {
			t.Errorf("DbValid(%v) is false", db)
		}
	}
}

func TestDbValidRejects(t *testing.T) {
	for _, db := range invalidDbs() {
		expectNoDb(t, db)
	}
}

// All orders of three origins.
func TestDbValidIfOriginsAscend(t *testing.T) {
	for a := -1; a <= 8; a++ {
		for b := -1; b <= 8; b++ {
			for c := -1; c <= 8; c++ {
				db := []impl.Lsa{lsa(a, 3), lsa(b, 2), lsa(c, 1)}
				if got := impl.DbValid(db); got != (0 <= a && a < b && b < c && c < 8) {
					t.Errorf("DbValid(%v) is %v", db, got)
				}
			}
		}
	}
}

func TestDbPutByHand(t *testing.T) {
	db := []impl.Lsa{lsa(2, 5, 1, 4), lsa(4, 99, 2, 6), lsa(6, 1)}
	for _, c := range []struct {
		name   string
		db     []impl.Lsa
		l      impl.Lsa
		want   []impl.Lsa
		result int
	}{
		{"into an empty list", nil, lsa(3, 1, 0, 2), []impl.Lsa{lsa(3, 1, 0, 2)}, impl.PutNewer},
		{"without neighbours into an empty list", []impl.Lsa{}, lsa(0, 1), []impl.Lsa{lsa(0, 1)}, impl.PutNewer},
		{"at the beginning", db, lsa(0, 1, 7, 1), []impl.Lsa{lsa(0, 1, 7, 1), db[0], db[1], db[2]}, impl.PutNewer},
		{"in the middle", db, lsa(3, 1, 7, 1), []impl.Lsa{db[0], lsa(3, 1, 7, 1), db[1], db[2]}, impl.PutNewer},
		{"at the end", db, lsa(7, 99), []impl.Lsa{db[0], db[1], db[2], lsa(7, 99)}, impl.PutNewer},
		{"newer by one", db, lsa(2, 6, 3, 4), []impl.Lsa{lsa(2, 6, 3, 4), db[1], db[2]}, impl.PutNewer},
		{"newer without neighbours", db, lsa(2, 6), []impl.Lsa{lsa(2, 6), db[1], db[2]}, impl.PutNewer},
		{"newer with the same neighbours", db, lsa(2, 99, 1, 4), []impl.Lsa{lsa(2, 99, 1, 4), db[1], db[2]}, impl.PutNewer},
		{"from the least to the greatest number", db, lsa(6, 99, 0, 1), []impl.Lsa{db[0], db[1], lsa(6, 99, 0, 1)}, impl.PutNewer},
		{"the same", db, lsa(2, 5, 1, 4), db, impl.PutSame},
		{"the same number, another neighbour", db, lsa(2, 5, 3, 4), db, impl.PutSame},
		{"the same number, another cost", db, lsa(2, 5, 1, 3), db, impl.PutSame},
		{"the same number, one more neighbour", db, lsa(2, 5, 1, 4, 3, 4), db, impl.PutSame},
		{"the same number, no neighbours", db, lsa(4, 99), db, impl.PutSame},
		{"the same least number, more neighbours", db, lsa(6, 1, 0, 1), db, impl.PutSame},
		{"older by one", db, lsa(2, 4, 1, 4), db, impl.PutOlder},
		{"older with other neighbours", db, lsa(4, 98, 0, 1), db, impl.PutOlder},
		{"from the greatest to the least number", db, lsa(4, 1), db, impl.PutOlder},
	} {
		t.Run(c.name, func(t *testing.T) {
			if got, result := impl.DbPut(c.db, c.l); !sameDb(got, c.want) || result != c.result {
				t.Errorf("DbPut(%v, %v) is %v, %d", c.db, c.l, got, result)
			}
		})
	}
}

// Promises 70 and 71, of all of the list at once.
func TestDbPutWithoutMap(t *testing.T) {
	forPuts(func(db []impl.Lsa, l impl.Lsa) {
		want, code := putIn(db, l)
		if got, result := put(t, db, l); !sameDb(got, want) || result != code {
			t.Errorf("DbPut(%v, %v) is %v, %d, not %v, %d", db, l, got, result, want, code)
		}
	})
}

// Promise 70.
func TestDbPutOfNewerKeepsAllOthers(t *testing.T) {
	forPuts(func(db []impl.Lsa, l impl.Lsa) {
		got, result := put(t, db, l)
		if result != impl.PutNewer {
			return
		}
		others := func(m impl.Lsa) bool { return m.Origin == l.Origin }
		if at := slices.IndexFunc(got, others); at == -1 || !sameLsa(got[at], l) {
			t.Errorf("DbPut(%v, %v) is %v", db, l, got)
		}
		if !sameDb(slices.DeleteFunc(got, others), slices.DeleteFunc(slices.Clone(db), others)) {
			t.Errorf("DbPut(%v, %v) changes others", db, l)
		}
	})
}

// Promise 71.
func TestDbPutComparesSequenceNumbers(t *testing.T) {
	forPuts(func(db []impl.Lsa, l impl.Lsa) {
		want := impl.PutNewer
		if seq := seqIn(db, l.Origin); seq == l.Seq {
			want = impl.PutSame
		} else if seq > l.Seq {
			want = impl.PutOlder
		}
		got, result := put(t, db, l)
		if result != want || sameDb(got, db) != (want != impl.PutNewer) {
			t.Errorf("DbPut(%v, %v) is %v, %d", db, l, got, result)
		}
	})
}

// Promise 72.
func TestDbPutAgainChangesNothing(t *testing.T) {
	forPuts(func(db []impl.Lsa, l impl.Lsa) {
		once, first := put(t, db, l)
		twice, second := put(t, once, l)
		if !sameDb(once, twice) || second != max(first, impl.PutSame) {
			t.Errorf("DbPut(%v, %v) is %v, %d, and then %v, %d", db, l, once, first, twice, second)
		}
	})
}

// Promise 73. With the same origin and sequence number, the first one stays.
func TestDbPutOfTwoInEitherOrder(t *testing.T) {
	for i, db := range validDbs() {
		changes := changesOf(db)
		for j, l := range changes {
			m := changes[(7*i+11*j+1)%len(changes)]
			first, _ := put(t, db, l)
			first, _ = put(t, first, m)
			second, _ := put(t, db, m)
			second, _ = put(t, second, l)
			if (l.Origin != m.Origin || l.Seq != m.Seq) && !sameDb(first, second) {
				t.Errorf("into %v, %v and %v give %v and %v", db, l, m, first, second)
			}
		}
	}
	for _, db := range [][]impl.Lsa{nil, {lsa(3, 4, 1, 2)}} {
		l, m := lsa(3, 5, 4, 2), lsa(3, 5, 4, 3)
		first, _ := put(t, db, l)
		if got, result := put(t, first, m); result != impl.PutSame || !sameDb(got, []impl.Lsa{l}) {
			t.Errorf("into %v, %v and %v give %v, %d", db, l, m, got, result)
		}
	}
}

func TestDbMergeByHand(t *testing.T) {
	db := []impl.Lsa{lsa(1, 1, 0, 1), lsa(3, 50, 1, 2), lsa(5, 99, 3, 3), lsa(6, 7)}
	for _, c := range []struct {
		name    string
		other   []impl.Lsa
		want    []impl.Lsa
		missing []int
		back    []int
	}{
		{"with an empty list", nil, db, nil, []int{1, 3, 5, 6}},
		{"with itself", db, db, nil, nil},
		{"with the same numbers and other content", []impl.Lsa{lsa(1, 1), lsa(3, 50, 2, 2), lsa(5, 99, 3, 4), lsa(6, 7, 0, 1)}, db, nil, nil},
		{"with older ones", []impl.Lsa{lsa(3, 49, 7, 7), lsa(5, 1)}, db, nil, []int{1, 3, 5, 6}},
		{"with newer ones", []impl.Lsa{lsa(1, 2), lsa(6, 99, 1, 1)}, []impl.Lsa{lsa(1, 2), db[1], db[2], lsa(6, 99, 1, 1)}, []int{1, 6}, []int{3, 5}},
		{"with other ones", []impl.Lsa{lsa(0, 1), lsa(2, 99, 0, 1), lsa(7, 1, 0, 20)}, []impl.Lsa{lsa(0, 1), db[0], lsa(2, 99, 0, 1), db[1], db[2], db[3], lsa(7, 1, 0, 20)}, []int{0, 2, 7}, []int{1, 3, 5, 6}},
		{"with all sorts", []impl.Lsa{lsa(0, 3), lsa(1, 2, 5, 5), lsa(3, 50), lsa(5, 98)}, []impl.Lsa{lsa(0, 3), lsa(1, 2, 5, 5), db[1], db[2], db[3]}, []int{0, 1}, []int{5, 6}},
	} {
		t.Run(c.name, func(t *testing.T) {
			if got := merged(t, db, c.other); !sameDb(got, c.want) {
				t.Errorf("DbMerge(%v, %v) is %v", db, c.other, got)
			}
			if got := impl.DbMissing(db, c.other); !slices.Equal(got, c.missing) {
				t.Errorf("DbMissing(%v, %v) is %v", db, c.other, got)
			}
			if got := impl.DbMissing(c.other, db); !slices.Equal(got, c.back) {
				t.Errorf("DbMissing(%v, %v) is %v", c.other, db, got)
			}
		})
	}
}

// DbMerge stores the announcements one by one, as DbPut does.
func TestDbMergeWithoutMap(t *testing.T) {
	forDbPairs(func(db []impl.Lsa, other []impl.Lsa) {
		if got, want := merged(t, db, other), mergeOf(db, other); !sameDb(got, want) {
			t.Errorf("DbMerge(%v, %v) is %v, not %v", db, other, got, want)
		}
	})
}

// Promise 74.
func TestDbMergeHasTheGreaterSequenceNumbers(t *testing.T) {
	forDbPairs(func(db []impl.Lsa, other []impl.Lsa) {
		got := seqsIn(merged(t, db, other))
		for origin, seq := range got {
			if seq != max(seqIn(db, origin), seqIn(other, origin)) {
				t.Errorf("DbMerge(%v, %v) has the sequence numbers %v", db, other, got)
			}
		}
	})
}

// Promise 75.
func TestDbMergeAgainChangesNothing(t *testing.T) {
	forDbPairs(func(db []impl.Lsa, other []impl.Lsa) {
		once := merged(t, db, other)
		if twice := merged(t, once, other); !sameDb(once, twice) {
			t.Errorf("DbMerge(%v, %v) is %v, and then %v", db, other, once, twice)
		}
	})
	for _, db := range validDbs() {
		if got := merged(t, db, db); !sameDb(got, db) {
			t.Errorf("DbMerge of %v with itself is %v", db, got)
		}
	}
}

// Promise 76.
func TestDbMergeMissesNothing(t *testing.T) {
	forDbPairs(func(db []impl.Lsa, other []impl.Lsa) {
		list := merged(t, db, other)
		if got := impl.DbMissing(list, other); len(got) != 0 {
			t.Errorf("DbMissing(%v, %v) is %v", list, other, got)
		}
	})
}

// Promise 77.
func TestDbMissingHasOriginsWithGreaterSequenceNumbers(t *testing.T) {
	forDbPairs(func(db []impl.Lsa, other []impl.Lsa) {
		if got := impl.DbMissing(db, other); !slices.Equal(got, missingOf(db, other)) {
			t.Errorf("DbMissing(%v, %v) is %v", db, other, got)
		}
	})
}

// Promise 81. The lists are equal, too, where equal sequence numbers have equal content.
func TestDbMergeInTheOtherDirection(t *testing.T) {
	forDbPairs(func(db []impl.Lsa, other []impl.Lsa) {
		there, back := merged(t, db, other), merged(t, other, db)
		if seqsIn(there) != seqsIn(back) {
			t.Errorf("DbMerge(%v, %v) is %v, and %v in the other direction", db, other, there, back)
		}
		for i, l := range there {
			if seqIn(db, l.Origin) != seqIn(other, l.Origin) && !sameLsa(l, back[i]) {
				t.Errorf("DbMerge(%v, %v) has %v, and %v in the other direction", db, other, l, back[i])
			}
		}
	})
}

// Promise 82.
func TestDbMissingOfItselfAndOfEmptyLists(t *testing.T) {
	for _, db := range validDbs() {
		origins := []int{}
		for _, l := range db {
			origins = append(origins, l.Origin)
		}
		for _, empty := range [][]impl.Lsa{nil, {}} {
			if got := impl.DbMissing(db, empty); len(got) != 0 {
				t.Errorf("DbMissing of %v and an empty list is %v", db, got)
			}
			if got := impl.DbMissing(empty, db); !slices.Equal(got, origins) {
				t.Errorf("DbMissing of an empty list and %v is %v", db, got)
			}
		}
		if got := impl.DbMissing(db, db); len(got) != 0 {
			t.Errorf("DbMissing of %v and itself is %v", db, got)
		}
	}
}

func TestDbGraphByHand(t *testing.T) {
	both := []impl.Lsa{lsa(0, 1, 1, 3, 2, 4), lsa(1, 9, 0, 5, 2, 6), lsa(2, 2, 0, 4, 1, 2)}
	all := []impl.Link{{A: 0, B: 1, Cost: 5}, {A: 0, B: 2, Cost: 4}, {A: 1, B: 2, Cost: 6}}
	far := []impl.Lsa{lsa(0, 1, 6, 20), lsa(6, 1, 0, 1, 7, 2), lsa(7, 1, 6, 3)}
	for _, c := range []struct {
		name  string
		nodes int
		db    []impl.Lsa
		links []impl.Link
	}{
		{"no announcements, one node", 1, nil, nil},
		{"no announcements, all nodes", 8, []impl.Lsa{}, nil},
		{"announcements without neighbours", 3, []impl.Lsa{lsa(0, 1), lsa(1, 1), lsa(2, 1)}, nil},
		{"both ends with the same cost", 2, []impl.Lsa{lsa(0, 1, 1, 20), lsa(1, 1, 0, 20)}, []impl.Link{{A: 0, B: 1, Cost: 20}}},
		{"the smaller end has the greater cost", 2, []impl.Lsa{lsa(0, 1, 1, 9), lsa(1, 1, 0, 8)}, []impl.Link{{A: 0, B: 1, Cost: 9}}},
		{"the greater end has the greater cost", 2, []impl.Lsa{lsa(0, 1, 1, 1), lsa(1, 1, 0, 20)}, []impl.Link{{A: 0, B: 1, Cost: 20}}},
		{"the newer one has the smaller cost", 2, []impl.Lsa{lsa(0, 1, 1, 9), lsa(1, 99, 0, 8)}, []impl.Link{{A: 0, B: 1, Cost: 9}}},
		{"announced by the smaller end only", 2, []impl.Lsa{lsa(0, 1, 1, 9), lsa(1, 1)}, nil},
		{"announced by the greater end only", 2, []impl.Lsa{lsa(0, 1), lsa(1, 1, 0, 9)}, nil},
		{"the greater end has no announcement", 2, []impl.Lsa{lsa(0, 1, 1, 9)}, nil},
		{"the smaller end has no announcement", 2, []impl.Lsa{lsa(1, 1, 0, 9)}, nil},
		{"the node 0 has no announcement, and the node 1 is one's neighbour", 3, []impl.Lsa{lsa(1, 1, 0, 9, 2, 8), lsa(2, 1, 0, 7, 1, 8)}, []impl.Link{{A: 1, B: 2, Cost: 8}}},
		{"each announces another one", 3, []impl.Lsa{lsa(0, 1, 1, 1), lsa(1, 1, 2, 1), lsa(2, 1, 0, 1)}, nil},
		{"three nodes", 3, both, all},
		{"more nodes than announcements", 8, both, all},
		{"fewer nodes than announcements", 2, both, all[:1]},
		{"one node, but more announcements", 1, both, nil},
		{"the last nodes", 8, far, []impl.Link{{A: 0, B: 6, Cost: 20}, {A: 6, B: 7, Cost: 3}}},
		{"without the last node", 7, far, []impl.Link{{A: 0, B: 6, Cost: 20}}},
		{"without the last nodes", 6, far, nil},
		{"the graph of the command interface", 5, truth(square(), 1), square().Links},
		{"as many links as fit", 8, truth(fullGraph(), 1), fullGraph().Links},
	} {
		t.Run(c.name, func(t *testing.T) { expectDbGraph(t, c.nodes, c.db, c.links) })
	}
}

// Only links that both ends announce count, and only those of nodes of the graph.
func TestDbGraphAtTheLimitOfLinks(t *testing.T) {
	most := truth(fullGraph(), 1)
	if got, ok := impl.DbGraph(8, most); !ok || len(got.Links) != 14 {
		t.Errorf("DbGraph of 14 links is %v, %v", got, ok)
	}
	oneSided := slices.Clone(most)
	oneSided[7] = lsa(7, 1, 0, 17, 1, 14, 2, 1, 6, 1)
	if got, ok := impl.DbGraph(8, oneSided); !ok || len(got.Links) != 14 {
		t.Errorf("DbGraph of 14 links and others of one end is %v, %v", got, ok)
	}
	more := slices.Clone(oneSided)
	more[6] = lsa(6, 1, 0, 18, 1, 15, 7, 1)
	if got, ok := impl.DbGraph(8, more); ok || !isZero(got) {
		t.Errorf("DbGraph of 15 links is %v, %v", got, ok)
	}
	if got, ok := impl.DbGraph(7, more); !ok || len(got.Links) != 12 {
		t.Errorf("DbGraph of fewer nodes is %v, %v", got, ok)
	}
	for nodes := 1; nodes <= 8; nodes++ {
		got, ok := impl.DbGraph(nodes, everyone(8, 1))
		if count := nodes * (nodes - 1) / 2; ok != (count <= 14) || ok && len(got.Links) != count || !ok && !isZero(got) {
			t.Errorf("DbGraph of %d nodes, every two of them linked, is %v, %v", nodes, got, ok)
		}
	}
}

// Promise 78, with every number of nodes.
func TestDbGraphHasLinksThatBothEndsAnnounce(t *testing.T) {
	for _, db := range validDbs() {
		for nodes := 1; nodes <= 8; nodes++ {
			expectDbGraph(t, nodes, db, linksOf(nodes, db))
			got, ok := impl.DbGraph(nodes, db)
			for a := range nodes {
				for b := range nodes {
					there, back, link := costIn(db, a, b), costIn(db, b, a), impl.GraphLink(got, a, b)
					if ok && (link != -1) != (there != 0 && back != 0) || link != -1 && got.Links[link].Cost != max(there, back) {
						t.Errorf("DbGraph(%d, %v) is %v, %v", nodes, db, got, ok)
					}
				}
			}
		}
	}
}

// Promise 79.
func TestDbGraphOfAllAnnouncementsIsTheGraph(t *testing.T) {
	forValid(t, func(t *testing.T, g impl.Graph) {
		db := []impl.Lsa{}
		for i := range g.Nodes {
			l, _ := impl.LsaOf(g, g.Nodes-1-i, 1+(5*i)%impl.MaxSeq)
			db, _ = put(t, db, l)
		}
		if got, ok := impl.DbGraph(g.Nodes, db); !ok || !sameGraph(got, g) {
			t.Errorf("DbGraph(%d, %v) is %v, %v, not %v", g.Nodes, db, got, ok, g)
		}
	})
}

// Promise 80. The links of other nodes are kept.
func TestDbGraphWithoutAnnouncementOfNode(t *testing.T) {
	forValid(t, func(t *testing.T, g impl.Graph) {
		for n := range g.Nodes {
			db := slices.Delete(truth(g, 2), n, n+1)
			got, ok := impl.DbGraph(g.Nodes, db)
			if want, _ := impl.GraphIsolate(g, n); !ok || !sameGraph(got, want) {
				t.Errorf("DbGraph(%d, %v) is %v, %v", g.Nodes, db, got, ok)
			}
		}
	})
	for _, db := range validDbs() {
		for i, l := range db {
			got, _ := impl.DbGraph(8, slices.Delete(slices.Clone(db), i, i+1))
			if list := impl.GraphNeighbours(got, l.Origin); len(list) != 0 {
				t.Errorf("DbGraph of %v without %v has the neighbours %v", db, l, list)
			}
		}
	}
}

func TestDbGraphOfImpossibleNumberOfNodes(t *testing.T) {
	for _, db := range validDbs() {
		for _, nodes := range append(outside(9), 0) {
			if got, ok := impl.DbGraph(nodes, db); ok || !isZero(got) {
				t.Errorf("DbGraph(%d, %v) is %v, %v", nodes, db, got, ok)
			}
		}
	}
}

// The other tests would show little if the lists that they are run on were not of all sorts.
func TestDatabasesAreOfAllSorts(t *testing.T) {
	sorts := map[string]int{}
	count := func(sort string, is bool) {
		if is {
			sorts[sort]++
		}
	}
	forPuts(func(db []impl.Lsa, l impl.Lsa) {
		at := slices.IndexFunc(db, func(m impl.Lsa) bool { return m.Origin == l.Origin })
		count("of another origin", at == -1)
		count("newer", at != -1 && db[at].Seq < l.Seq)
		count("older", at != -1 && db[at].Seq > l.Seq)
		count("the same number and content", at != -1 && sameLsa(db[at], l))
		count("the same number, but other content", at != -1 && db[at].Seq == l.Seq && !sameLsa(db[at], l))
		count("without neighbours", len(l.Ends) == 0)
	})
	forDbPairs(func(db []impl.Lsa, other []impl.Lsa) {
		missing, back := missingOf(db, other), missingOf(other, db)
		count("both lists miss some", len(missing) > 0 && len(back) > 0)
		count("only one list misses some", len(missing) > 0 && len(back) == 0)
		count("different with equal numbers", !sameDb(mergeOf(db, other), mergeOf(other, db)))
		count("newer ones among stored ones", slices.ContainsFunc(missing, func(n int) bool { return seqIn(db, n) > 0 }))
	})
	for _, db := range validDbs() {
		for nodes := 1; nodes <= 8; nodes++ {
			links := linksOf(nodes, db)
			count("too many links", len(links) > impl.MaxLinks)
			count("several links", len(links) > 1 && len(links) <= impl.MaxLinks)
			count("fewer nodes than announced", len(links) < len(linksOf(8, db)))
			count("different costs at both ends", slices.ContainsFunc(links, func(l impl.Link) bool { return costIn(db, l.A, l.B) != costIn(db, l.B, l.A) }))
		}
	}
	for _, sort := range []string{"of another origin", "newer", "older", "the same number and content", "the same number, but other content", "without neighbours",
		"both lists miss some", "only one list misses some", "different with equal numbers", "newer ones among stored ones",
		"too many links", "several links", "fewer nodes than announced", "different costs at both ends"} {
		if sorts[sort] < 50 {
			t.Errorf("there are %d of the sort: %s", sorts[sort], sort)
		}
	}
}

// guardedDb returns the announcements with all of their neighbours in one memory, and spare capacity behind each slice, and
// a function that reports whether all of this is still what it was.
func guardedDb(db []impl.Lsa) ([]impl.Lsa, func() bool) {
	junk := impl.Lsa{Origin: -7, Seq: -8, Ends: []impl.End{{Node: -9, Cost: -10}}}
	list := []impl.Lsa{}
	ends := []impl.End{}
	for _, l := range db {
		ends = append(append(ends, l.Ends...), junk.Ends...)
	}
	at := 0
	for _, l := range db {
		list = append(list, impl.Lsa{Origin: l.Origin, Seq: l.Seq, Ends: ends[at : at+len(l.Ends)]})
		at += len(l.Ends) + 1
	}
	list = append(list, junk)
	before := slices.Clone(ends)
	return list[:len(db)], func() bool {
		return slices.Equal(ends, before) && sameDb(list[:len(db)], db) && sameLsa(list[len(db)], lsa(-7, -8, -9, -10))
	}
}

// spoilDb overwrites a list, with the neighbours of its announcements one after the other. It reports
// whether this left the neighbours of the other ones as they were.
func spoilDb(list []impl.Lsa) bool {
	apart := true
	for i := range list {
		before := []impl.Lsa{}
		for _, l := range list[i+1:] {
			before = append(before, impl.Lsa{Origin: l.Origin, Seq: l.Seq, Ends: slices.Clone(l.Ends)})
		}
		spoil(list[i].Ends, impl.End{Node: -1, Cost: -2})
		apart = apart && sameDb(before, list[i+1:])
	}
	spoil(list, impl.Lsa{Origin: -3, Seq: -4})
	return apart
}

// The general rules: arguments are not changed, and no memory is shared with a result or within one.
func TestDatabasesShareNoMemory(t *testing.T) {
	others := validDbs()
	for i, valid := range others {
		db, untouched := guardedDb(valid)
		other, untouchedToo := guardedDb(others[(5*i+1)%len(others)])
		same, untouchedSame := guardedDb(valid)
		results := [][]impl.Lsa{}
		keep := func(list []impl.Lsa) { results = append(results, list) }
		for _, with := range [][]impl.Lsa{other, same, db, nil} {
			for _, pair := range [][2][]impl.Lsa{{db, with}, {with, db}} {
				list, _ := impl.DbMerge(pair[0], pair[1])
				keep(list)
				spoil(impl.DbMissing(pair[0], pair[1]), -1)
			}
			for _, l := range with {
				list, _ := impl.DbPut(db, l)
				keep(list)
			}
		}
		for nodes := range 9 {
			g, _ := impl.DbGraph(nodes, db)
			spoil(g.Links, impl.Link{A: -1, B: -2, Cost: -3})
		}
		for _, list := range results {
			if !spoilDb(list) || !impl.DbValid(db) || !untouched() || !untouchedToo() || !untouchedSame() {
				t.Fatalf("memory is shared: %v has become %v", valid, db)
			}
		}
	}
}

// Neighbours that two announcements have in the same memory are apart in a result.
func TestDatabasesTakeSharedMemoryApart(t *testing.T) {
	ends := []impl.End{{Node: 5, Cost: 1}, {Node: 6, Cost: 2}}
	db := []impl.Lsa{{Origin: 0, Seq: 1, Ends: ends}, {Origin: 2, Seq: 1, Ends: ends}}
	l := impl.Lsa{Origin: 1, Seq: 1, Ends: ends}
	stored, _ := impl.DbPut(db, l)
	all, _ := impl.DbMerge(db, []impl.Lsa{l})
	kept, _ := impl.DbPut(db, db[0])
	if len(stored) != 3 || len(all) != 3 || len(kept) != 2 || !spoilDb(stored) || !spoilDb(all) || !spoilDb(kept) {
		t.Error("announcements in a result share memory")
	}
	if !slices.Equal(ends, []impl.End{{Node: 5, Cost: 1}, {Node: 6, Cost: 2}}) {
		t.Errorf("the neighbours have become %v", ends)
	}
}

func TestLsaOfSharesNoMemory(t *testing.T) {
	g, untouched := guarded(square())
	for n := range 5 {
		l, _ := impl.LsaOf(g, n, 1)
		spoil(l.Ends, impl.End{Node: -1, Cost: -2})
		again, ok := impl.LsaOf(g, n, 1)
		if !ok || !sameLsa(again, truth(square(), 1)[n]) || !untouched() {
			t.Errorf("the graph has become %v, and the announcement %v", g, again)
		}
	}
}
