package tests

import (
	"cmp"
	"math"
	"math/rand"
	"slices"
	"strconv"
	"strings"
	"testing"

	"loop.example/linkstaterouting/impl"
)

// rt is a route.
func rt(prefix int, bits int, hop int) impl.Route {
	return impl.Route{Prefix: prefix, Bits: bits, Hop: hop}
}

// tableOf returns a table with next hops and routes, each given by its prefix, its bits and the index of its next hop.
func tableOf(hops []int, numbers ...int) impl.Table {
	table := impl.Table{Hops: hops}
	for i := 0; i < len(numbers); i += 3 {
		table.Routes = append(table.Routes, rt(numbers[i], numbers[i+1], numbers[i+2]))
	}
	return table
}

// texts are the 8 bits of each address as text. They are kept because they are compared very often.
var texts = func() []string {
	list := []string{}
	for address := range 256 {
		text := strconv.FormatInt(int64(address), 2)
		list = append(list, strings.Repeat("0", 8-len(text))+text)
	}
	return list
}()

// matches reports whether a valid route matches an address, by comparing their bits as text.
func matches(r impl.Route, address int) bool {
	return texts[address][:r.Bits] == texts[r.Prefix][:r.Bits]
}

// cutTo returns an address in which all but the first bits are 0, by way of its text.
func cutTo(address int, bits int) int {
	n, _ := strconv.ParseInt(texts[address][:bits]+strings.Repeat("0", 8-bits), 2, 0)
	return int(n)
}

// allRoutes are the routes of all lengths with all prefixes, ascending, with this index of a next hop.
func allRoutes(hop int) []impl.Route {
	list := []impl.Route{}
	for prefix := range 256 {
		for bits := range 9 {
			if !strings.Contains(texts[prefix][bits:], "1") {
				list = append(list, rt(prefix, bits, hop))
			}
		}
	}
	return list
}

// sameKey reports whether two routes have the same prefix and the same number of bits.
func sameKey(a impl.Route, b impl.Route) bool {
	return a.Prefix == b.Prefix && a.Bits == b.Bits
}

// sameTable reports whether both tables are equal; it makes no difference between no slice and an empty one.
func sameTable(a impl.Table, b impl.Table) bool {
	return slices.Equal(a.Routes, b.Routes) && slices.Equal(a.Hops, b.Hops)
}

// isEmpty reports whether a table is the zero value.
func isEmpty(table impl.Table) bool {
	return sameTable(table, impl.Table{})
}

// others are the routes of a table whose prefix or number of bits is not that of r.
func others(table impl.Table, r impl.Route) []impl.Route {
	return slices.DeleteFunc(slices.Clone(table.Routes), func(other impl.Route) bool { return sameKey(r, other) })
}

// addedTo is what TableAdd of a valid route returns: its route put behind the others, and all of them sorted.
func addedTo(table impl.Table, r impl.Route) (impl.Table, bool) {
	routes := others(table, r)
	if len(routes) == 10 {
		return table, false
	}
	routes = append(routes, r)
	slices.SortFunc(routes, func(a impl.Route, b impl.Route) int { return cmp.Or(a.Prefix-b.Prefix, a.Bits-b.Bits) })
	return impl.Table{Routes: routes, Hops: table.Hops}, true
}

// foundIn is the index of the route of a table with the most bits of all that match an address, or -1.
func foundIn(table impl.Table, address int) int {
	found := -1
	for i, r := range table.Routes {
		if matches(r, address) && (found == -1 || r.Bits > table.Routes[found].Bits) {
			found = i
		}
	}
	return found
}

// hopIn is the next hop of an address, or -1.
func hopIn(table impl.Table, address int) int {
	if found := foundIn(table, address); found != -1 {
		return table.Hops[table.Routes[found].Hop]
	}
	return -1
}

// nested has the routes of all lengths that match an address, each with another next hop than the one before it.
func nested(address int) impl.Table {
	table := impl.Table{Hops: []int{6, 0, 7, 3}}
	for bits := range 9 {
		table.Routes = append(table.Routes, rt(cutTo(address, bits), bits, bits%4))
	}
	return table
}

// fullTable has as many routes and next hops as a table may have.
func fullTable() impl.Table {
	return tableOf([]int{7, 2, 0, 5}, 0, 0, 0, 0, 1, 3, 0, 8, 1, 1, 8, 1, 64, 2, 2, 96, 3, 0, 128, 1, 3, 192, 2, 1, 254, 7, 0, 255, 8, 2)
}

// halves has two next hops and a route for each half of the addresses.
func halves() impl.Table {
	return tableOf([]int{4, 6}, 0, 1, 0, 128, 1, 1)
}

// randomTable returns a valid table. The routes match one of a few addresses each, so that many match the same one.
func randomTable(r *rand.Rand) impl.Table {
	table := impl.Table{}
	for range r.Intn(5) {
		table.Hops = append(table.Hops, r.Intn(8))
	}
	if len(table.Hops) == 0 {
		return table
	}
	centres := []int{r.Intn(256), r.Intn(256), []int{0, 255}[r.Intn(2)]}[:1+r.Intn(3)]
	for range r.Intn(21) {
		bits := r.Intn(9)
		table, _ = addedTo(table, rt(cutTo(centres[r.Intn(len(centres))], bits), bits, r.Intn(len(table.Hops))))
	}
	return table
}

// namedTables are the tables of the edge cases.
func namedTables() []impl.Table {
	list := []impl.Table{
		{},
		{Routes: []impl.Route{}, Hops: []int{}},
		{Hops: []int{3}},
		{Hops: []int{0, 7, 0, 7}},
		fullTable(),
		halves(),
		tableOf([]int{5}, 0, 0, 0),
		tableOf([]int{5}, 0, 8, 0),
		tableOf([]int{5}, 255, 8, 0),
		tableOf([]int{1, 2, 3, 4}, 0, 8, 3, 255, 8, 2),
		tableOf([]int{5, 5}, 0, 0, 0, 160, 3, 1),
		tableOf([]int{5, 6}, 32, 3, 1, 32, 4, 0, 32, 5, 1, 32, 6, 0, 32, 8, 1),
		tableOf([]int{5, 6}, 32, 3, 0, 48, 4, 1, 56, 5, 0, 60, 6, 1, 63, 8, 0),
		tableOf([]int{2, 3}, 160, 3, 1, 168, 5, 0, 170, 7, 1, 170, 8, 0),
		tableOf([]int{1, 2}, 10, 8, 0, 11, 8, 1, 12, 8, 0, 13, 8, 1, 14, 8, 0, 15, 8, 1, 16, 8, 0, 17, 8, 1, 18, 8, 0, 19, 8, 1),
		tableOf([]int{1, 2}, 0, 8, 0, 1, 8, 1, 2, 7, 0, 4, 6, 1, 8, 5, 0, 16, 4, 1, 32, 3, 0, 64, 2, 1, 128, 1, 0),
	}
	for _, address := range []int{0, 1, 37, 90, 128, 165, 254, 255} {
		list = append(list, nested(address))
	}
	return list
}

// validTables returns tables of all sorts.
func validTables() []impl.Table {
	list := namedTables()
	r := rand.New(rand.NewSource(23))
	for range 600 {
		list = append(list, randomTable(r))
	}
	return list
}

// invalidTables returns tables that break one rule each. Most of them have a route without bits and one
// for the address 165, so that a function that forgets to check finds something.
func invalidTables() []impl.Table {
	hops := []int{4, 6}
	list := []impl.Table{
		tableOf(hops, 160, 3, 1, 0, 0, 0),
		tableOf(hops, 0, 0, 0, 0, 0, 1, 160, 3, 1),
		tableOf(hops, 0, 0, 0, 160, 3, 1, 160, 3, 1),
		tableOf(hops, 0, 0, 0, 160, 3, 1, 160, 3, 0),
		tableOf(hops, 0, 0, 0, 160, 4, 1, 160, 3, 1),
		tableOf(hops, 0, 1, 0, 0, 0, 1, 160, 3, 1),
		tableOf(hops, 0, 0, 0, 160, 3, 1, 128, 4, 0),
		tableOf(hops, 0, 0, 0, 164, 6, 1, 160, 3, 0, 165, 8, 0),
		tableOf(hops, 255, 8, 0, 165, 8, 1, 0, 0, 1),
		tableOf(hops, 0, 0, 0, 161, 3, 1),
		tableOf(hops, 0, 0, 0, 165, 7, 1),
		tableOf(hops, 0, 0, 0, 176, 3, 1),
		tableOf(hops, 0, 0, 0, 255, 0, 1),
		tableOf(hops, 1, 0, 0, 160, 3, 1),
		tableOf(hops, 128, 0, 0, 160, 3, 1),
		tableOf(hops, 64, 1, 0, 160, 3, 1),
		tableOf(nil, 0, 0, 0),
		tableOf(nil, 0, 0, 0, 160, 3, 0),
		tableOf([]int{3, 4, 5, 6, 7}),
		tableOf([]int{3, 4, 5, 6, 7}, 0, 0, 0, 160, 3, 1),
		tableOf([]int{3, 4, 5, 6, 7}, 0, 0, 0, 160, 3, 4),
		tableOf(make([]int, 1<<10), 0, 0, 0, 160, 3, 1),
		{Routes: allRoutes(0), Hops: hops},
		{Routes: allRoutes(0)[:11], Hops: hops},
		{Routes: append(fullTable().Routes[:9:9], rt(254, 8, 0), rt(255, 8, 0)), Hops: fullTable().Hops},
		{Routes: append([]impl.Route{rt(0, 0, 0), rt(0, 1, 3)}, fullTable().Routes[2:]...), Hops: []int{7, 2, 0}},
		{Routes: make([]impl.Route, 1<<10), Hops: hops},
	}
	for _, n := range append(outside(9), 9, 10, 64) {
		list = append(list, tableOf(hops, 0, 0, 0, 160, n, 1), tableOf(hops, 0, n, 0, 160, 3, 1), tableOf(hops, 0, n, 0))
	}
	for _, n := range append(outside(256), 256, 257, 416, 512, -96, -160) {
		list = append(list, tableOf(hops, 0, 0, 0, n, 3, 1), tableOf(hops, n, 8, 0, 160, 3, 1), tableOf(hops, n, 0, 0), tableOf(hops, 0, 0, 0, 160, 3, 1, n, 8, 0))
	}
	for _, n := range append(outside(2), 2, 3, 4) {
		list = append(list, tableOf(hops, 0, 0, 0, 160, 3, n), tableOf(hops, 0, 0, n, 160, 3, 1))
	}
	for _, n := range outside(8) {
		list = append(list, tableOf([]int{n}), tableOf([]int{4, n}, 0, 0, 0, 160, 3, 0), tableOf([]int{n, 4}, 0, 0, 1, 160, 3, 1), tableOf([]int{4, 4, n, 4}, 0, 0, 0, 160, 3, 1))
	}
	return list
}

// invalidRoutes returns routes that are not valid for a table with this number of next hops.
func invalidRoutes(hops int) []impl.Route {
	list := []impl.Route{rt(1, 0, 0), rt(128, 0, 0), rt(255, 0, 0), rt(64, 1, 0), rt(192, 1, 0), rt(161, 3, 0), rt(176, 3, 0), rt(1, 7, 0), rt(165, 7, 0), rt(255, 7, 0)}
	for _, n := range append(outside(9), 9, 10, 64) {
		list = append(list, rt(0, n, 0), rt(160, n, 0), rt(255, n, 0))
	}
	for _, n := range append(outside(256), 256, 257, 416, 512, -96, -160) {
		list = append(list, rt(n, 0, 0), rt(n, 3, 0), rt(n, 8, 0))
	}
	for _, n := range append(outside(hops), hops, hops+1) {
		list = append(list, rt(0, 0, n), rt(160, 3, n), rt(255, 8, n))
	}
	return list
}

// forTables runs a check on all valid tables.
func forTables(check func(table impl.Table)) {
	for _, table := range validTables() {
		check(table)
	}
}

// triedRoutes are valid routes for a table: those that it has, with all next hops, some of all lengths, and others.
func triedRoutes(table impl.Table) []impl.Route {
	list := []impl.Route{}
	r := rand.New(rand.NewSource(int64(len(table.Routes)*8 + len(table.Hops))))
	for hop := range table.Hops {
		for _, has := range table.Routes {
			list = append(list, rt(has.Prefix, has.Bits, hop))
			list = append(list, rt(cutTo(has.Prefix, has.Bits/2), has.Bits/2, hop))
		}
		for bits := range 9 {
			list = append(list, rt(cutTo(r.Intn(256), bits), bits, hop))
		}
		list = append(list, rt(0, 8, hop), rt(255, 8, hop))
	}
	return list
}

// forAdds runs a check on valid tables and valid routes for them.
func forAdds(check func(table impl.Table, r impl.Route)) {
	forTables(func(table impl.Table) {
		for _, r := range triedRoutes(table) {
			check(table, r)
		}
	})
}

// forRemoves runs a check on each route of all valid tables.
func forRemoves(check func(table impl.Table, r impl.Route)) {
	forTables(func(table impl.Table) {
		for _, r := range table.Routes {
			check(table, r)
		}
	})
}

// forAddresses runs a check on all addresses of all valid tables.
func forAddresses(check func(table impl.Table, address int)) {
	forTables(func(table impl.Table) {
		for address := range 256 {
			check(table, address)
		}
	})
}

// forTurns runs a check on each next hop of all valid tables and each node.
func forTurns(check func(table impl.Table, hop int, node int)) {
	forTables(func(table impl.Table) {
		for hop := range table.Hops {
			for node := range impl.MaxNodes {
				check(table, hop, node)
			}
		}
	})
}

// hopsOf are the next hops of all addresses.
func hopsOf(table impl.Table) []int {
	list := []int{}
	for address := range 256 {
		list = append(list, impl.TableHop(table, address))
	}
	return list
}

// expectTable checks a table that a function has returned, and whether it has succeeded.
func expectTable(t *testing.T, got impl.Table, ok bool, want impl.Table, wantOK bool) {
	t.Helper()
	if !sameTable(got, want) || ok != wantOK {
		t.Fatalf("the table is %v, %v, not %v, %v", got, ok, want, wantOK)
	}
}

// added is TableAdd that succeeds.
func added(t *testing.T, table impl.Table, r impl.Route) impl.Table {
	t.Helper()
	got, ok := impl.TableAdd(table, r)
	if !ok || !impl.TableValid(got) {
		t.Fatalf("TableAdd(%v, %v) is %v, %v", table, r, got, ok)
	}
	return got
}

// removed is TableRemove that succeeds.
func removed(t *testing.T, table impl.Table, r impl.Route) impl.Table {
	t.Helper()
	got, ok := impl.TableRemove(table, r.Prefix, r.Bits)
	if !ok || !impl.TableValid(got) {
		t.Fatalf("TableRemove(%v, %d, %d) is %v, %v", table, r.Prefix, r.Bits, got, ok)
	}
	return got
}

// turned is TableTurn with valid arguments.
func turned(t *testing.T, table impl.Table, hop int, node int) (impl.Table, int) {
	t.Helper()
	got, count := impl.TableTurn(table, hop, node)
	if count < 0 || !impl.TableValid(got) {
		t.Fatalf("TableTurn(%v, %d, %d) is %v, %d", table, hop, node, got, count)
	}
	return got, count
}

// expectNoAdd checks that a route cannot be added because an argument is invalid.
func expectNoAdd(t *testing.T, table impl.Table, r impl.Route) {
	t.Helper()
	if got, ok := impl.TableAdd(table, r); ok || !isEmpty(got) {
		t.Errorf("TableAdd(%v, %v) is %v, %v", table, r, got, ok)
	}
}

// expectNoTurn checks that a next hop cannot be turned because an argument is invalid.
func expectNoTurn(t *testing.T, table impl.Table, hop int, node int) {
	t.Helper()
	if got, count := impl.TableTurn(table, hop, node); count != -1 || !isEmpty(got) {
		t.Errorf("TableTurn(%v, %d, %d) is %v, %d", table, hop, node, got, count)
	}
}

// expectNoFind checks that no route is found.
func expectNoFind(t *testing.T, table impl.Table, address int) {
	t.Helper()
	if got := impl.TableFind(table, address); got != -1 {
		t.Errorf("TableFind(%v, %d) is %d", table, address, got)
	}
	if got := impl.TableHop(table, address); got != -1 {
		t.Errorf("TableHop(%v, %d) is %d", table, address, got)
	}
}

// expectNoTable checks what the functions say of a table that is not valid.
func expectNoTable(t *testing.T, table impl.Table) {
	t.Helper()
	if impl.TableValid(table) {
		t.Errorf("TableValid(%v) is true", table)
	}
	for _, r := range append(slices.Clone(table.Routes[:min(len(table.Routes), 12)]), rt(0, 0, 0), rt(160, 3, 1), rt(165, 8, 0), rt(0, 9, 0), rt(0, 0, 4)) {
		expectNoAdd(t, table, r)
		if got, ok := impl.TableRemove(table, r.Prefix, r.Bits); ok || !isEmpty(got) {
			t.Errorf("TableRemove(%v, %d, %d) is %v, %v", table, r.Prefix, r.Bits, got, ok)
		}
	}
	for _, address := range []int{0, 128, 160, 165, 255, -1, 256, math.MinInt, math.MaxInt} {
		expectNoFind(t, table, address)
	}
	for _, node := range []int{0, 4, 7, 8} {
		for hop := -1; hop <= len(table.Hops) && hop < 9; hop++ {
			expectNoTurn(t, table, hop, node)
		}
	}
}

func TestTableConstants(t *testing.T) {
	if impl.MaxRoutes != 10 || impl.MaxHops != 4 {
		t.Errorf("the constants are %d and %d", impl.MaxRoutes, impl.MaxHops)
	}
}

func TestTableValidAccepts(t *testing.T) {
	forTables(func(table impl.Table) {
		if !impl.TableValid(table) {
			t.Fatalf("TableValid(%v) is false", table)
		}
	})
}

func TestTableValidRejects(t *testing.T) {
	for _, table := range invalidTables() {
		expectNoTable(t, table)
	}
}

// All numbers in the ranges and around them: a route of each length with each prefix and the indexes of next hops.
func TestTableValidOfOneRoute(t *testing.T) {
	routes := allRoutes(0)
	for prefix := -2; prefix <= 258; prefix++ {
		for bits := -2; bits <= 10; bits++ {
			for hop := -1; hop <= 4; hop++ {
				table := tableOf([]int{1, 2, 3}, prefix, bits, hop)
				want := hop >= 0 && hop < 3 && slices.Contains(routes, rt(prefix, bits, 0))
				if got := impl.TableValid(table); got != want {
					t.Fatalf("TableValid(%v) is %v", table, got)
				}
				got, ok := impl.TableAdd(tableOf([]int{1, 2, 3}), rt(prefix, bits, hop))
				if !want {
					table = impl.Table{}
				}
				expectTable(t, got, ok, table, want)
			}
		}
	}
}

// Every two routes of all lengths in either order.
func TestTableValidIfRoutesAscend(t *testing.T) {
	routes := allRoutes(0)
	for i, a := range routes {
		for j, b := range routes {
			if got := impl.TableValid(impl.Table{Routes: []impl.Route{a, b}, Hops: []int{0}}); got != (i < j) {
				t.Fatalf("TableValid with the routes %v and %v is %v", a, b, got)
			}
		}
	}
}

// All orders of four routes, of which two have the same prefix and two the same number of bits, and of some of them.
func TestTableValidIfAllRoutesAscend(t *testing.T) {
	routes := tableOf(nil, 64, 2, 0, 64, 5, 1, 96, 3, 0, 128, 2, 1).Routes
	for set := range 256 {
		chosen := []int{set & 3, set >> 2 & 3, set >> 4 & 3, set >> 6 & 3}
		for count := range 5 {
			table := impl.Table{Hops: []int{3, 3}}
			want := true
			for i, n := range chosen[:count] {
				table.Routes = append(table.Routes, routes[n])
				want = want && (i == 0 || chosen[i-1] < n)
			}
			if got := impl.TableValid(table); got != want {
				t.Fatalf("TableValid(%v) is %v", table, got)
			}
			if !want {
				expectNoTable(t, table)
			}
		}
	}
}

func TestTableValidOfHops(t *testing.T) {
	for count := range 8 {
		hops := make([]int, count)
		if got := impl.TableValid(impl.Table{Hops: hops}); got != (count <= 4) {
			t.Errorf("TableValid with %d next hops is %v", count, got)
		}
		for i := range hops {
			for node := -2; node <= 10; node++ {
				hops[i] = node
				if got := impl.TableValid(impl.Table{Hops: hops}); got != (count <= 4 && node >= 0 && node <= 7) {
					t.Errorf("TableValid with the next hops %v is %v", hops, got)
				}
			}
			hops[i] = i
		}
	}
}

// As many routes as there can be, and more, with one next hop and with four.
func TestTableValidOfNumbersOfRoutes(t *testing.T) {
	routes := allRoutes(0)
	for count := range 14 {
		for _, start := range []int{0, 200, len(routes) - count} {
			for hops := 1; hops <= 4; hops++ {
				table := impl.Table{Routes: routes[start : start+count], Hops: make([]int, hops)}
				if got := impl.TableValid(table); got != (count <= 10) {
					t.Errorf("TableValid with %d routes is %v", count, got)
				}
			}
		}
	}
}

func TestTableAddByHand(t *testing.T) {
	hops := []int{4, 6}
	three := tableOf(hops, 32, 3, 0, 64, 2, 1, 64, 4, 0)
	full := fullTable()
	for _, c := range []struct {
		name  string
		table impl.Table
		r     impl.Route
		want  impl.Table
		ok    bool
	}{
		{"to no routes", tableOf(hops), rt(160, 3, 1), tableOf(hops, 160, 3, 1), true},
		{"without bits", tableOf(hops), rt(0, 0, 0), tableOf(hops, 0, 0, 0), true},
		{"with 8 bits", tableOf(hops), rt(255, 8, 1), tableOf(hops, 255, 8, 1), true},
		{"at the beginning", three, rt(0, 8, 1), tableOf(hops, 0, 8, 1, 32, 3, 0, 64, 2, 1, 64, 4, 0), true},
		{"without bits at the beginning", three, rt(0, 0, 1), tableOf(hops, 0, 0, 1, 32, 3, 0, 64, 2, 1, 64, 4, 0), true},
		{"at the end", three, rt(65, 8, 1), tableOf(hops, 32, 3, 0, 64, 2, 1, 64, 4, 0, 65, 8, 1), true},
		{"at the end with few bits", three, rt(128, 1, 1), tableOf(hops, 32, 3, 0, 64, 2, 1, 64, 4, 0, 128, 1, 1), true},
		{"in between, the prefix is new", three, rt(48, 4, 1), tableOf(hops, 32, 3, 0, 48, 4, 1, 64, 2, 1, 64, 4, 0), true},
		{"more bits than a route with the same prefix", three, rt(32, 5, 1), tableOf(hops, 32, 3, 0, 32, 5, 1, 64, 2, 1, 64, 4, 0), true},
		{"bits between those of routes with the same prefix", three, rt(64, 3, 1), tableOf(hops, 32, 3, 0, 64, 2, 1, 64, 3, 1, 64, 4, 0), true},
		{"more bits than all routes with the same prefix", three, rt(64, 8, 0), tableOf(hops, 32, 3, 0, 64, 2, 1, 64, 4, 0, 64, 8, 0), true},
		{"fewer bits than a route with the same prefix", tableOf(hops, 0, 0, 0, 128, 4, 1), rt(128, 1, 0), tableOf(hops, 0, 0, 0, 128, 1, 0, 128, 4, 1), true},
		{"fewer bits, but a greater prefix", tableOf(hops, 0, 8, 0), rt(128, 1, 1), tableOf(hops, 0, 8, 0, 128, 1, 1), true},
		{"more bits, but a smaller prefix", tableOf(hops, 128, 1, 1), rt(127, 8, 0), tableOf(hops, 127, 8, 0, 128, 1, 1), true},
		{"the same bits", tableOf(hops, 32, 3, 0, 96, 3, 0), rt(64, 3, 1), tableOf(hops, 32, 3, 0, 64, 3, 1, 96, 3, 0), true},
		{"the first one again", three, rt(32, 3, 0), three, true},
		{"a middle one again", three, rt(64, 2, 1), three, true},
		{"the last one again", three, rt(64, 4, 0), three, true},
		{"the first one with another next hop", three, rt(32, 3, 1), tableOf(hops, 32, 3, 1, 64, 2, 1, 64, 4, 0), true},
		{"a middle one with another next hop", three, rt(64, 2, 0), tableOf(hops, 32, 3, 0, 64, 2, 0, 64, 4, 0), true},
		{"the last one with another next hop", three, rt(64, 4, 1), tableOf(hops, 32, 3, 0, 64, 2, 1, 64, 4, 1), true},
		{"the only one with another next hop", tableOf(hops, 0, 0, 0), rt(0, 0, 1), tableOf(hops, 0, 0, 1), true},
		{"to a full table", full, rt(128, 8, 0), full, false},
		{"to a full table, at the beginning", tableOf([]int{3}, 1, 8, 0, 2, 8, 0, 3, 8, 0, 4, 8, 0, 5, 8, 0, 6, 8, 0, 7, 8, 0, 8, 8, 0, 9, 8, 0, 10, 8, 0), rt(0, 0, 0),
			tableOf([]int{3}, 1, 8, 0, 2, 8, 0, 3, 8, 0, 4, 8, 0, 5, 8, 0, 6, 8, 0, 7, 8, 0, 8, 8, 0, 9, 8, 0, 10, 8, 0), false},
		{"to a full table, a prefix that it has", full, rt(128, 2, 3), full, false},
		{"to a full table, bits that it has", full, rt(160, 3, 0), full, false},
		{"to a full table, one that it has", full, rt(96, 3, 0), full, true},
		{"to a full table, the first one with another next hop", full, rt(0, 0, 3), impl.Table{Routes: append([]impl.Route{rt(0, 0, 3)}, full.Routes[1:]...), Hops: full.Hops}, true},
		{"to a full table, the last one with another next hop", full, rt(255, 8, 0), impl.Table{Routes: append(full.Routes[:9:9], rt(255, 8, 0)), Hops: full.Hops}, true},
		{"to a table with 9 routes", nested(165), rt(0, 8, 2), impl.Table{Routes: slices.Insert(nested(165).Routes, 1, rt(0, 8, 2)), Hops: nested(165).Hops}, true},
	} {
		t.Run(c.name, func(t *testing.T) {
			got, ok := impl.TableAdd(c.table, c.r)
			expectTable(t, got, ok, c.want, c.ok)
		})
	}
}

// An invalid route is not answered by an unchanged table, also where there is no space for another one.
func TestTableAddOfInvalidRoute(t *testing.T) {
	for _, table := range namedTables() {
		for _, r := range invalidRoutes(len(table.Hops)) {
			expectNoAdd(t, table, r)
		}
		for _, r := range table.Routes {
			expectNoAdd(t, table, rt(r.Prefix, r.Bits, len(table.Hops)))
			expectNoAdd(t, table, rt(r.Prefix, r.Bits, -1))
		}
	}
}

// Routes of all lengths with all prefixes.
func TestTableAddOfAllRoutes(t *testing.T) {
	for _, table := range namedTables() {
		for hop := range table.Hops {
			for _, r := range allRoutes(hop) {
				got, ok := impl.TableAdd(table, r)
				want, wantOK := addedTo(table, r)
				expectTable(t, got, ok, want, wantOK)
			}
		}
	}
}

func TestTableAddAsDefined(t *testing.T) {
	forAdds(func(table impl.Table, r impl.Route) {
		got, ok := impl.TableAdd(table, r)
		want, wantOK := addedTo(table, r)
		expectTable(t, got, ok, want, wantOK)
	})
}

// Promise 124.
func TestTableAddKeepsAllOtherRoutes(t *testing.T) {
	forAdds(func(table impl.Table, r impl.Route) {
		got, ok := impl.TableAdd(table, r)
		if !ok {
			return
		}
		if !impl.TableValid(got) || !slices.Contains(got.Routes, r) {
			t.Fatalf("TableAdd(%v, %v) is %v", table, r, got)
		}
		if !slices.Equal(others(got, r), others(table, r)) || !slices.Equal(got.Hops, table.Hops) {
			t.Fatalf("TableAdd(%v, %v) is %v, with other routes or next hops", table, r, got)
		}
	})
}

// Promise 125.
func TestTableAddAgainChangesNothing(t *testing.T) {
	forAdds(func(table impl.Table, r impl.Route) {
		once, ok := impl.TableAdd(table, r)
		if !ok {
			return
		}
		twice, ok := impl.TableAdd(once, r)
		expectTable(t, twice, ok, once, true)
	})
}

// Promise 126. All these routes are valid; the tables without routes are never full.
func TestTableAddFailsOnlyIfTableIsFull(t *testing.T) {
	forAdds(func(table impl.Table, r impl.Route) {
		got, ok := impl.TableAdd(table, r)
		full := len(table.Routes) == impl.MaxRoutes && len(others(table, r)) == impl.MaxRoutes
		if ok == full {
			t.Fatalf("TableAdd(%v, %v) is %v, %v", table, r, got, ok)
		}
		if !ok {
			expectTable(t, got, ok, table, false)
		}
	})
}

// Promise 127.
func TestTableAddOfTwoInEitherOrder(t *testing.T) {
	r := rand.New(rand.NewSource(127))
	forTables(func(table impl.Table) {
		routes := triedRoutes(table)
		for range min(len(routes), 1) * 40 {
			a, b := routes[r.Intn(len(routes))], routes[r.Intn(len(routes))]
			first, ok := impl.TableAdd(table, a)
			second, fine := impl.TableAdd(table, b)
			ab, abOK := impl.TableAdd(first, b)
			ba, baOK := impl.TableAdd(second, a)
			if sameKey(a, b) || !ok || !fine || !abOK || !baOK {
				continue
			}
			if !sameTable(ab, ba) {
				t.Fatalf("TableAdd(%v) of %v and %v is %v, and %v in the other order", table, a, b, ab, ba)
			}
		}
	})
}

// All routes of a table, added in any order.
func TestTableAddInAnyOrder(t *testing.T) {
	r := rand.New(rand.NewSource(128))
	forTables(func(table impl.Table) {
		got := impl.Table{Hops: table.Hops}
		for _, i := range r.Perm(len(table.Routes)) {
			got = added(t, got, table.Routes[i])
		}
		expectTable(t, got, true, table, true)
	})
}

func TestTableRemoveByHand(t *testing.T) {
	hops := []int{4, 6}
	three := tableOf(hops, 32, 3, 0, 64, 2, 1, 64, 4, 0)
	full := fullTable()
	for _, c := range []struct {
		name   string
		table  impl.Table
		prefix int
		bits   int
		want   impl.Table
		ok     bool
	}{
		{"the first one", three, 32, 3, tableOf(hops, 64, 2, 1, 64, 4, 0), true},
		{"a middle one", three, 64, 2, tableOf(hops, 32, 3, 0, 64, 4, 0), true},
		{"the last one", three, 64, 4, tableOf(hops, 32, 3, 0, 64, 2, 1), true},
		{"the only one", tableOf(hops, 0, 0, 1), 0, 0, tableOf(hops), true},
		{"the only one, with 8 bits", tableOf(hops, 255, 8, 1), 255, 8, tableOf(hops), true},
		{"the first one of a full table", full, 0, 0, impl.Table{Routes: full.Routes[1:], Hops: full.Hops}, true},
		{"the last one of a full table", full, 255, 8, impl.Table{Routes: full.Routes[:9], Hops: full.Hops}, true},
		{"from no routes", tableOf(hops), 0, 0, tableOf(hops), false},
		{"from the zero value", impl.Table{}, 0, 0, impl.Table{}, false},
		{"another number of bits", three, 64, 3, three, false},
		{"fewer bits", three, 32, 2, three, false},
		{"another prefix", three, 96, 3, three, false},
		{"the prefix of one and the bits of another one", three, 32, 4, three, false},
		{"a prefix that a route matches", three, 33, 8, three, false},
		{"a prefix whose other bits are not 0", three, 33, 3, three, false},
		{"bits out of range", three, 64, 9, three, false},
		{"negative bits", three, 32, -1, three, false},
		{"the least bits", three, 32, math.MinInt, three, false},
		{"a prefix out of range", three, 320, 4, three, false},
		{"a negative prefix", three, -192, 2, three, false},
		{"the greatest numbers", full, math.MaxInt, math.MaxInt, full, false},
		{"a prefix that is not there, with bits that are", full, 2, 8, full, false},
	} {
		t.Run(c.name, func(t *testing.T) {
			got, ok := impl.TableRemove(c.table, c.prefix, c.bits)
			expectTable(t, got, ok, c.want, c.ok)
		})
	}
}

// All prefixes and numbers of bits in the ranges and around them, whether they can be those of a route or not.
func TestTableRemoveOfAllPrefixesAndBits(t *testing.T) {
	for _, table := range namedTables() {
		for prefix := -2; prefix <= 258; prefix++ {
			for bits := -2; bits <= 10; bits++ {
				left := others(table, rt(prefix, bits, 0))
				got, ok := impl.TableRemove(table, prefix, bits)
				expectTable(t, got, ok, impl.Table{Routes: left, Hops: table.Hops}, len(left) < len(table.Routes))
			}
		}
	}
}

// Numbers that are far outside of the ranges are those of no route.
func TestTableRemoveOfOddNumbers(t *testing.T) {
	for _, table := range namedTables() {
		for _, prefix := range oddNumbers {
			for _, bits := range oddNumbers {
				left := others(table, rt(prefix, bits, 0))
				got, ok := impl.TableRemove(table, prefix, bits)
				expectTable(t, got, ok, impl.Table{Routes: left, Hops: table.Hops}, len(left) < len(table.Routes))
			}
		}
	}
}

// Promise 128.
func TestTableRemoveAndAddAgain(t *testing.T) {
	forRemoves(func(table impl.Table, r impl.Route) {
		less := removed(t, table, r)
		if len(less.Routes) != len(table.Routes)-1 || len(others(less, r)) != len(less.Routes) {
			t.Fatalf("TableRemove(%v, %d, %d) is %v", table, r.Prefix, r.Bits, less)
		}
		expectTable(t, added(t, less, r), true, table, true)
		again, ok := impl.TableRemove(less, r.Prefix, r.Bits)
		expectTable(t, again, ok, less, false)
	})
}

// A route that is added and removed leaves the table as it was, if it was not there.
func TestTableAddAndRemoveAgain(t *testing.T) {
	forAdds(func(table impl.Table, r impl.Route) {
		if len(others(table, r)) == len(table.Routes) && len(table.Routes) < impl.MaxRoutes {
			expectTable(t, removed(t, added(t, table, r), r), true, table, true)
		}
	})
}

func TestTableFindAndHopByHand(t *testing.T) {
	hops := []int{4, 6, 0}
	some := tableOf(hops, 0, 0, 0, 0, 8, 1, 160, 3, 2, 160, 5, 0, 165, 8, 1)
	gap := tableOf(hops, 32, 3, 0, 32, 5, 1, 40, 5, 2, 128, 1, 1)
	for _, c := range []struct {
		name    string
		table   impl.Table
		address int
		index   int
		hop     int
	}{
		{"the zero value", impl.Table{}, 0, -1, -1},
		{"the zero value, the last address", impl.Table{}, 255, -1, -1},
		{"no routes", tableOf(hops), 100, -1, -1},
		{"only the route without bits", some, 100, 0, 4},
		{"only the route without bits, the last address", some, 255, 0, 4},
		{"a route with 8 bits, and one with the same prefix", some, 0, 1, 6},
		{"beside a route with 8 bits", some, 1, 0, 4},
		{"a longer route, the first address", some, 160, 3, 4},
		{"a longer route, the last address", some, 167, 3, 4},
		{"a longer route, beside its last address", some, 168, 2, 0},
		{"the last address of a route", some, 191, 2, 0},
		{"beside the last address of a route", some, 192, 0, 4},
		{"before the first address of a route", some, 159, 0, 4},
		{"four routes", some, 165, 4, 6},
		{"beside the longest route", some, 164, 3, 4},
		{"before all routes", gap, 31, -1, -1},
		{"address 0", gap, 0, -1, -1},
		{"two routes with the same prefix", gap, 33, 1, 6},
		{"two routes with different prefixes", gap, 47, 2, 0},
		{"the shorter route before later ones that do not match", gap, 48, 0, 4},
		{"the shorter route, the last address", gap, 63, 0, 4},
		{"between routes", gap, 64, -1, -1},
		{"the last address between routes", gap, 127, -1, -1},
		{"a route with one bit", gap, 128, 3, 6},
		{"a route with one bit, the last address", gap, 255, 3, 6},
		{"address 0 alone", tableOf(hops, 0, 8, 2), 0, 0, 0},
		{"next to address 0", tableOf(hops, 0, 8, 2), 1, -1, -1},
		{"address 255 alone", tableOf(hops, 255, 8, 1), 255, 0, 6},
		{"next to address 255", tableOf(hops, 255, 8, 1), 254, -1, -1},
		{"the most bits first, with the smallest next hop", tableOf(hops, 64, 2, 2, 127, 8, 0), 127, 1, 4},
	} {
		t.Run(c.name, func(t *testing.T) {
			if got := impl.TableFind(c.table, c.address); got != c.index {
				t.Errorf("TableFind(%v, %d) is %d, not %d", c.table, c.address, got, c.index)
			}
			if got := impl.TableHop(c.table, c.address); got != c.hop {
				t.Errorf("TableHop(%v, %d) is %d, not %d", c.table, c.address, got, c.hop)
			}
		})
	}
}

// A route of each length with each prefix, alone, and all addresses.
func TestTableFindOfAllRoutes(t *testing.T) {
	for _, r := range allRoutes(1) {
		table := impl.Table{Routes: []impl.Route{r}, Hops: []int{3, 5}}
		for address := range 256 {
			index, hop := -1, -1
			if matches(r, address) {
				index, hop = 0, 5
			}
			if got := impl.TableFind(table, address); got != index {
				t.Fatalf("TableFind(%v, %d) is %d, not %d", table, address, got, index)
			}
			if got := impl.TableHop(table, address); got != hop {
				t.Fatalf("TableHop(%v, %d) is %d, not %d", table, address, got, hop)
			}
		}
	}
}

// Every two routes that match the same address. It is the one with more bits that is found.
func TestTableFindOfTwoRoutes(t *testing.T) {
	for address := range 256 {
		for less := range 9 {
			for more := less + 1; more < 9; more++ {
				table := tableOf([]int{2, 7}, cutTo(address, less), less, 1, cutTo(address, more), more, 0)
				if got := impl.TableFind(table, address); got != 1 {
					t.Fatalf("TableFind(%v, %d) is %d", table, address, got)
				}
				if got := impl.TableHop(table, address); got != 2 {
					t.Fatalf("TableHop(%v, %d) is %d", table, address, got)
				}
			}
		}
	}
}

// From a nest of routes of all lengths, the longest one is removed again and again.
func TestTableFindInNest(t *testing.T) {
	for address := range 256 {
		table := nested(address)
		for bits := 8; bits >= 0; bits-- {
			if got := impl.TableFind(table, address); got != bits {
				t.Fatalf("TableFind(%v, %d) is %d, not %d", table, address, got, bits)
			}
			if got := impl.TableHop(table, address); got != table.Hops[bits%4] {
				t.Fatalf("TableHop(%v, %d) is %d, not %d", table, address, got, table.Hops[bits%4])
			}
			table = removed(t, table, rt(cutTo(address, bits), bits, 0))
		}
		expectNoFind(t, table, address)
	}
}

func TestTableFindOfAddressOutOfRange(t *testing.T) {
	forTables(func(table impl.Table) {
		for _, address := range append(outside(256), 256, 257, 288, 421, 511, 512, -91, -128, -255, -256) {
			expectNoFind(t, table, address)
		}
	})
}

// Promise 129.
func TestTableFindHasTheMostBits(t *testing.T) {
	forAddresses(func(table impl.Table, address int) {
		found := impl.TableFind(table, address)
		if found != foundIn(table, address) {
			t.Fatalf("TableFind(%v, %d) is %d", table, address, found)
		}
		for i, r := range table.Routes {
			if matches(r, address) && (found == -1 || table.Routes[found].Bits < r.Bits) || i == found && !matches(r, address) {
				t.Fatalf("TableFind(%v, %d) is %d, not %d", table, address, found, i)
			}
		}
	})
}

// Promise 130.
func TestTableHopIsThatOfTableFind(t *testing.T) {
	forAddresses(func(table impl.Table, address int) {
		want := -1
		if found := impl.TableFind(table, address); found != -1 {
			want = table.Hops[table.Routes[found].Hop]
		}
		if got := impl.TableHop(table, address); got != want || got != hopIn(table, address) {
			t.Fatalf("TableHop(%v, %d) is %d, not %d", table, address, got, want)
		}
	})
}

// expectChangeWithin checks that next hops have changed only for addresses that a route matches.
func expectChangeWithin(t *testing.T, before []int, after []int, r impl.Route) {
	t.Helper()
	for address := range 256 {
		if before[address] != after[address] && !matches(r, address) {
			t.Fatalf("by the route %v the next hop of %d has become %d, not %d", r, address, after[address], before[address])
		}
	}
}

// Promise 131, for routes of all lengths. An address that no route with more bits matches gets the next hop of the new one.
func TestTableAddChangesOnlyAddressesOfTheRoute(t *testing.T) {
	for _, table := range namedTables() {
		before := hopsOf(table)
		for _, r := range allRoutes(len(table.Hops) - 1) {
			got, ok := impl.TableAdd(table, r)
			if !ok {
				continue
			}
			after := hopsOf(got)
			expectChangeWithin(t, before, after, r)
			for address := range 256 {
				found := foundIn(table, address)
				if matches(r, address) && (found == -1 || table.Routes[found].Bits <= r.Bits) && after[address] != table.Hops[r.Hop] {
					t.Fatalf("after TableAdd(%v, %v), the next hop of %d is %d", table, r, address, after[address])
				}
			}
		}
	}
}

func TestTableTurnByHand(t *testing.T) {
	for _, c := range []struct {
		name  string
		table impl.Table
		hop   int
		node  int
		hops  []int
		count int
	}{
		{"no routes", tableOf([]int{3}), 0, 5, []int{5}, 0},
		{"no routes, to the same node", tableOf([]int{3}), 0, 3, []int{3}, 0},
		{"no routes with it, the last one", tableOf([]int{3, 4, 5, 6}, 0, 0, 0, 0, 1, 1), 3, 0, []int{3, 4, 5, 0}, 0},
		{"no routes with it, the first one", tableOf([]int{3, 4}, 0, 0, 1), 0, 7, []int{7, 4}, 0},
		{"one route", halves(), 1, 2, []int{4, 2}, 1},
		{"one route, the first one", halves(), 0, 2, []int{2, 6}, 1},
		{"several routes", fullTable(), 0, 1, []int{1, 2, 0, 5}, 3},
		{"several routes, in the middle", fullTable(), 1, 1, []int{7, 1, 0, 5}, 3},
		{"several routes, the last one", fullTable(), 3, 1, []int{7, 2, 0, 1}, 2},
		{"to the same node", fullTable(), 2, 0, []int{7, 2, 0, 5}, 2},
		{"to the node of another one", fullTable(), 2, 7, []int{7, 2, 7, 5}, 2},
		{"one of two with the same node", tableOf([]int{5, 5}, 0, 0, 0, 160, 3, 1, 255, 8, 1), 1, 0, []int{5, 0}, 2},
		{"all routes", tableOf([]int{5}, 0, 0, 0, 160, 3, 0, 255, 8, 0), 0, 0, []int{0}, 3},
		{"as many routes as there can be", impl.Table{Routes: allRoutes(1)[:10], Hops: []int{5, 6}}, 1, 7, []int{5, 7}, 10},
		{"as many routes as there can be, none of them with it", impl.Table{Routes: allRoutes(1)[:10], Hops: []int{5, 6}}, 0, 7, []int{7, 6}, 0},
	} {
		t.Run(c.name, func(t *testing.T) {
			got, count := turned(t, c.table, c.hop, c.node)
			expectTable(t, got, true, impl.Table{Routes: c.table.Routes, Hops: c.hops}, true)
			if count != c.count {
				t.Errorf("TableTurn(%v, %d, %d) returned %d, not %d", c.table, c.hop, c.node, count, c.count)
			}
		})
	}
}

func TestTableTurnOfInvalidArguments(t *testing.T) {
	forTables(func(table impl.Table) {
		for _, hop := range append(outside(len(table.Hops)), len(table.Hops), len(table.Hops)+1) {
			for node := -1; node <= 8; node++ {
				expectNoTurn(t, table, hop, node)
			}
		}
		for hop := range table.Hops {
			for _, node := range append(outside(8), 10) {
				expectNoTurn(t, table, hop, node)
			}
		}
	})
}

// Promise 132.
func TestTableTurnChangesAllRoutesAtOnce(t *testing.T) {
	r := rand.New(rand.NewSource(132))
	forTables(func(table impl.Table) {
		before := hopsOf(table)
		for hop := range table.Hops {
			node := r.Intn(impl.MaxNodes)
			got, _ := turned(t, table, hop, node)
			for address, after := range hopsOf(got) {
				want := before[address]
				if found := impl.TableFind(table, address); found != -1 && table.Routes[found].Hop == hop {
					want = node
				}
				if after != want {
					t.Fatalf("after TableTurn(%v, %d, %d), the next hop of %d is %d, not %d", table, hop, node, address, after, want)
				}
			}
		}
	})
}

// Promise 133. Turning to the node that it already is changes nothing, and returns as many routes.
func TestTableTurnAndBack(t *testing.T) {
	forTurns(func(table impl.Table, hop int, node int) {
		want := 0
		for _, r := range table.Routes {
			if r.Hop == hop {
				want++
			}
		}
		there, count := turned(t, table, hop, node)
		back, again := turned(t, there, hop, table.Hops[hop])
		if count != want || again != want || !slices.Equal(there.Routes, table.Routes) || there.Hops[hop] != node {
			t.Fatalf("TableTurn(%v, %d, %d) is %v, %d, and back %d", table, hop, node, there, count, again)
		}
		expectTable(t, back, true, table, true)
	})
}

// Promise 134.
func TestTableAddOfRouteWithoutBitsMatchesAllAddresses(t *testing.T) {
	forTables(func(table impl.Table) {
		for hop := range table.Hops {
			got, ok := impl.TableAdd(table, rt(0, 0, hop))
			for address := 0; ok && address < 256; address++ {
				found := impl.TableFind(got, address)
				if found == -1 || !matches(got.Routes[found], address) {
					t.Fatalf("TableFind(%v, %d) is %d", got, address, found)
				}
				if foundIn(table, address) == -1 && impl.TableHop(got, address) != table.Hops[hop] {
					t.Fatalf("TableHop(%v, %d) is %d", got, address, impl.TableHop(got, address))
				}
			}
		}
	})
}

// Promise 135, for the routes that a table has, and for new ones for all addresses.
func TestTableHopOfRouteWithAllBits(t *testing.T) {
	forTables(func(table impl.Table) {
		for _, r := range table.Routes {
			if got := impl.TableHop(table, r.Prefix); r.Bits == 8 && got != table.Hops[r.Hop] {
				t.Fatalf("TableHop(%v, %d) is %d", table, r.Prefix, got)
			}
		}
		for address := 0; len(table.Hops) > 0 && address < 256; address++ {
			hop := address % len(table.Hops)
			got, ok := impl.TableAdd(table, rt(address, 8, hop))
			if ok && impl.TableHop(got, address) != table.Hops[hop] {
				t.Fatalf("TableHop(%v, %d) is %d", got, address, impl.TableHop(got, address))
			}
		}
	})
}

// Promise 136. An address whose route is not the removed one keeps its next hop, too.
func TestTableRemoveChangesOnlyAddressesOfTheRoute(t *testing.T) {
	forTables(func(table impl.Table) {
		before := hopsOf(table)
		for i, r := range table.Routes {
			after := hopsOf(removed(t, table, r))
			expectChangeWithin(t, before, after, r)
			for address := range 256 {
				if found := foundIn(table, address); found != i && after[address] != before[address] {
					t.Fatalf("after TableRemove(%v, %d, %d), the next hop of %d is %d, not %d", table, r.Prefix, r.Bits, address, after[address], before[address])
				}
			}
		}
	})
}

// The zero value is a valid table to which no route can be added, because it has no next hops.
func TestZeroTable(t *testing.T) {
	for _, table := range []impl.Table{{}, {Routes: []impl.Route{}}, {Hops: []int{}}, {Routes: []impl.Route{}, Hops: []int{}}} {
		if !impl.TableValid(table) {
			t.Errorf("TableValid(%v) is false", table)
		}
		for _, r := range append(allRoutes(0), invalidRoutes(0)...) {
			expectNoAdd(t, table, r)
			got, ok := impl.TableRemove(table, r.Prefix, r.Bits)
			expectTable(t, got, ok, impl.Table{}, false)
		}
		for address := -1; address <= 256; address++ {
			expectNoFind(t, table, address)
		}
		for hop := -1; hop <= 4; hop++ {
			expectNoTurn(t, table, hop, 0)
		}
	}
}

// A table over some time: what packets to a few addresses do after each step.
func TestTableOverTime(t *testing.T) {
	table := impl.Table{Hops: []int{1, 2, 3}}
	for i, step := range []struct {
		change func() (impl.Table, bool)
		ok     bool
		hops   [5]int // of the addresses 0, 100, 160, 165 and 255
	}{
		{func() (impl.Table, bool) { return impl.TableRemove(table, 0, 0) }, false, [5]int{-1, -1, -1, -1, -1}},
		{func() (impl.Table, bool) { return impl.TableAdd(table, rt(160, 3, 1)) }, true, [5]int{-1, -1, 2, 2, -1}},
		{func() (impl.Table, bool) { return impl.TableAdd(table, rt(0, 0, 0)) }, true, [5]int{1, 1, 2, 2, 1}},
		{func() (impl.Table, bool) { return impl.TableAdd(table, rt(165, 8, 2)) }, true, [5]int{1, 1, 2, 3, 1}},
		{func() (impl.Table, bool) { return impl.TableAdd(table, rt(128, 1, 2)) }, true, [5]int{1, 1, 2, 3, 3}},
		{func() (impl.Table, bool) { got, count := impl.TableTurn(table, 2, 7); return got, count == 2 }, true, [5]int{1, 1, 2, 7, 7}},
		{func() (impl.Table, bool) { return impl.TableAdd(table, rt(160, 3, 0)) }, true, [5]int{1, 1, 1, 7, 7}},
		{func() (impl.Table, bool) { got, count := impl.TableTurn(table, 0, 7); return got, count == 2 }, true, [5]int{7, 7, 7, 7, 7}},
		{func() (impl.Table, bool) { got, count := impl.TableTurn(table, 2, 3); return got, count == 2 }, true, [5]int{7, 7, 7, 3, 3}},
		{func() (impl.Table, bool) { return impl.TableRemove(table, 0, 0) }, true, [5]int{-1, -1, 7, 3, 3}},
		{func() (impl.Table, bool) { return impl.TableRemove(table, 128, 2) }, false, [5]int{-1, -1, 7, 3, 3}},
		{func() (impl.Table, bool) { return impl.TableRemove(table, 128, 1) }, true, [5]int{-1, -1, 7, 3, -1}},
		{func() (impl.Table, bool) { return impl.TableRemove(table, 165, 8) }, true, [5]int{-1, -1, 7, 7, -1}},
		{func() (impl.Table, bool) { return impl.TableRemove(table, 160, 3) }, true, [5]int{-1, -1, -1, -1, -1}},
	} {
		next, ok := step.change()
		hops := [5]int{}
		for j, address := range []int{0, 100, 160, 165, 255} {
			hops[j] = impl.TableHop(next, address)
		}
		if ok != step.ok || hops != step.hops || !impl.TableValid(next) {
			t.Fatalf("after step %d the table is %v, %v, with the next hops %v", i, next, ok, hops)
		}
		table = next
	}
}

// The other tests would show little if the tables that they are run on were not of all sorts.
func TestTablesAreOfAllSorts(t *testing.T) {
	sorts := map[string]int{}
	count := func(sort string, is bool) {
		if is {
			sorts[sort]++
		}
	}
	lengths := map[int]int{}
	forTables(func(table impl.Table) {
		most, none := 0, false
		for address := range 256 {
			matching := slices.DeleteFunc(slices.Clone(table.Routes), func(r impl.Route) bool { return !matches(r, address) })
			most, none = max(most, len(matching)), none || len(matching) == 0
		}
		used := map[int]int{}
		prefixes := map[int]int{}
		for _, r := range table.Routes {
			lengths[r.Bits]++
			used[r.Hop]++
			prefixes[r.Prefix]++
		}
		count("full", len(table.Routes) == impl.MaxRoutes)
		count("almost full", len(table.Routes) == impl.MaxRoutes-1)
		count("without routes", len(table.Routes) == 0)
		count("without next hops", len(table.Hops) == 0)
		count("four next hops", len(table.Hops) == impl.MaxHops)
		count("routes with the same prefix", len(prefixes) < len(table.Routes))
		count("a next hop with several routes and one without", len(used) < len(table.Hops) && len(table.Routes) > len(used))
		count("several routes for an address", most > 2)
		count("an address without routes", none && len(table.Routes) > 0)
		count("a route for every address", !none)
	})
	for _, sort := range []string{"full", "almost full", "without routes", "without next hops", "four next hops", "routes with the same prefix",
		"a next hop with several routes and one without", "several routes for an address", "an address without routes", "a route for every address"} {
		if sorts[sort] < 30 {
			t.Errorf("there are %d of the sort: %s", sorts[sort], sort)
		}
	}
	for bits := range 9 {
		if lengths[bits] < 100 {
			t.Errorf("there are %d routes with %d bits", lengths[bits], bits)
		}
	}
}

// guardedTable returns a table with spare capacity behind its routes and next hops, and a function that reports
// whether they and the spare capacity are still what they were.
func guardedTable(table impl.Table) (impl.Table, func() bool) {
	routes := append(slices.Clone(table.Routes), rt(-7, -8, -9), rt(-10, -11, -12))
	hops := append(slices.Clone(table.Hops), -13, -14)
	keptRoutes, keptHops := slices.Clone(routes), slices.Clone(hops)
	given := impl.Table{Routes: routes[:len(table.Routes)], Hops: hops[:len(table.Hops)]}
	return given, func() bool { return slices.Equal(routes, keptRoutes) && slices.Equal(hops, keptHops) }
}

// The general rules: arguments are not changed, not even behind their ends, and no memory is shared with a result,
// also if that is the unchanged table.
func TestTablesShareNoMemory(t *testing.T) {
	calls := []func(impl.Table) impl.Table{
		func(given impl.Table) impl.Table { got, _ := impl.TableTurn(given, 0, 5); return got },
		func(given impl.Table) impl.Table { got, _ := impl.TableTurn(given, len(given.Hops)-1, 0); return got },
		func(given impl.Table) impl.Table { got, _ := impl.TableRemove(given, 0, 9); return got },
	}
	for _, r := range []impl.Route{rt(0, 0, 0), rt(0, 8, 0), rt(64, 2, 0), rt(165, 8, 0), rt(252, 6, 0), rt(255, 8, 0), rt(1, 7, 0), rt(0, 0, 4)} {
		calls = append(calls, func(given impl.Table) impl.Table { got, _ := impl.TableAdd(given, r); return got })
		calls = append(calls, func(given impl.Table) impl.Table { got, _ := impl.TableRemove(given, r.Prefix, r.Bits); return got })
	}
	for _, table := range append(validTables(), invalidTables()...) {
		given, unchanged := guardedTable(table)
		impl.TableValid(given)
		impl.TableFind(given, 165)
		impl.TableHop(given, 165)
		for i, call := range calls {
			first, second := call(given), call(given)
			kept := impl.Table{Routes: slices.Clone(second.Routes), Hops: slices.Clone(second.Hops)}
			spoil(first.Routes, rt(-1, -2, -3))
			spoil(first.Hops, -4)
			if !unchanged() || !sameTable(second, kept) {
				t.Fatalf("by call %d, %v has become %v", i, table, given)
			}
		}
	}
}

// Two tables that are made from one by adding routes are not changed with each other, although both begin with its routes.
func TestTablesThatGrowFromOneShareNoMemory(t *testing.T) {
	forAdds(func(table impl.Table, r impl.Route) {
		base, _ := impl.TableAdd(table, r)
		kept := impl.Table{Routes: slices.Clone(base.Routes), Hops: slices.Clone(base.Hops)}
		one, _ := impl.TableAdd(base, rt(0, 0, 0))
		two, _ := impl.TableAdd(base, rt(255, 8, 0))
		want := slices.Clone(two.Routes)
		spoil(one.Routes, rt(-1, -2, -3))
		spoil(one.Hops, -4)
		if !sameTable(base, kept) || !slices.Equal(two.Routes, want) {
			t.Fatalf("%v has become %v", kept, base)
		}
	})
}
