package tests

import (
	"math"
	"slices"
	"testing"

	"loop.example/bentrows/impl"
)

func wantCrossed(t *testing.T, table [][]int, want bool) {
	t.Helper()
	if got := impl.TableCrossed(table); got != want {
		t.Fatalf("TableCrossed of %v returned %t", table, got)
	}
}

func TestTableCrossed(t *testing.T) {
	held, others := 0, 0
	for _, table := range manyTables() {
		want := isCrossed(table)
		wantCrossed(t, table, want)
		if want {
			held++
		} else {
			others++
		}
	}
	if held < 500 || others < 500 {
		t.Fatalf("%d tables are crossed, and %d are not", held, others)
	}
	for _, table := range [][][]int{
		// One row or one column has no two of them.
		{{7}}, {{-1000}}, {{1000}}, {{5, -3, 9, 0, 1000, -1000}}, {{5}, {-3}, {9}, {0}, {1000}, {-1000}}, {{3, 1}}, {{3}, {1}},
		{{1, 4}, {0, 1}}, {{0, 0}, {0, 0}}, {{0, 1}, {1, 2}}, {{0, 1}, {1, 1}}, {{-1000, 1000}, {1000, -1000}},
		{{1, 2, 3}, {4, 5, 6}}, {{1, 2, 3}, {4, 5, 5}}, steady(6, 6, -1000),
	} {
		wantCrossed(t, table, true)
	}
	for _, table := range [][][]int{
		{{4, 1}, {1, 0}}, {{0, 1}, {1, 3}}, {{1, 0}, {0, 0}}, {{0, 0}, {0, 1}}, {{0, -1}, {0, 0}}, {{1000, -1000}, {-1000, 1000}},
		{{1, 2, 3}, {4, 5, 7}}, {{1, 2, 3}, {5, 5, 7}}, {{0, 0}, {0, 0}, {0, 1}}, withEntry(steady(6, 6, 0), 5, 5, 1), withEntry(steady(6, 6, 0), 0, 0, 1),
		// Too much at two rows and columns beside each other, although for the outer ones it is less.
		{{0, 0, 0}, {0, 0, -9}, {0, 1, -9}}, {{0, 5, 5}, {5, 5, 6}, {5, 5, 0}},
	} {
		wantCrossed(t, table, false)
	}
	for _, table := range noTables() {
		wantCrossed(t, table, false)
	}
}

func TestTableOf(t *testing.T) {
	for n := 1; n <= tableMax; n++ {
		for m := 1; m <= tableMax; m++ {
			for _, a := range [][]int{counted(n+m-1, 0, 1), filled(n+m-1, 1000), filled(n+m-1, -1000), counted(n+m-1, 7, -3), anyOne(1, n+m-1, 1000, n*m)[0]} {
				want := tableOf(n, m, func(i int, k int) int { return backwards(a[:n+k])[i] })
				got, ok := impl.TableOf(n, m, a)
				wantTable(t, got, ok, want, "TableOf", n, m, a)
			}
		}
	}
	for _, c := range []struct {
		n, m int
		row  []int
		want [][]int
	}{
		{2, 2, []int{0, 1, 4}, [][]int{{1, 4}, {0, 1}}},
		{1, 1, []int{-1000}, [][]int{{-1000}}},
		{1, 3, []int{5, 0, 7}, [][]int{{5, 0, 7}}},
		{3, 1, []int{5, 0, 7}, [][]int{{7}, {0}, {5}}},
		{2, 3, []int{1, 2, 3, 4}, [][]int{{2, 3, 4}, {1, 2, 3}}},
		{3, 2, []int{1, 2, 3, 4}, [][]int{{3, 4}, {2, 3}, {1, 2}}},
		{6, 6, counted(11, 1, 1), [][]int{{6, 7, 8, 9, 10, 11}, {5, 6, 7, 8, 9, 10}, {4, 5, 6, 7, 8, 9}, {3, 4, 5, 6, 7, 8}, {2, 3, 4, 5, 6, 7}, {1, 2, 3, 4, 5, 6}}},
	} {
		got, ok := impl.TableOf(c.n, c.m, c.row)
		wantTable(t, got, ok, c.want, "TableOf", c.n, c.m, c.row)
	}
}

func TestTableOfFails(t *testing.T) {
	wantNot := func(n int, m int, a []int) {
		t.Helper()
		got, ok := impl.TableOf(n, m, a)
		wantNoTable(t, got, ok, "TableOf", n, m, a)
	}
	for n := -1; n <= 14; n++ {
		for m := -1; m <= 14; m++ {
			for length := range 15 {
				fits := n >= 1 && m >= 1 && n <= tableMax && m <= tableMax && length == n+m-1
				if !fits {
					wantNot(n, m, filled(length, 0))
				}
			}
		}
	}
	for _, x := range append(outside(), math.MinInt/2, math.MaxInt/2+1, math.MinInt/2+1) {
		for _, y := range []int{x, -x, 1 - x, 2 - x, 4 - x, 0, 1, 6} {
			for _, a := range [][]int{nil, {0}, {0, 1, 4}} {
				wantNot(x, y, a)
				wantNot(y, x, a)
			}
		}
	}
	for _, a := range noRows() {
		for n := 1; n <= tableMax; n++ {
			wantNot(n, len(a)+1-n, a)
			wantNot(n, n, a)
		}
	}
}

func TestTableLeast(t *testing.T) {
	for _, table := range manyTables() {
		got, ok := impl.TableLeast(table)
		wantList(t, got, ok, leastOf(table), "TableLeast", table)
	}
	for _, c := range []struct {
		table [][]int
		want  []int
	}{
		{[][]int{{7}}, []int{0}},
		{[][]int{{-1000}}, []int{0}},
		{[][]int{{3, 1, 2}}, []int{1}},
		{[][]int{{3}, {1}, {2}}, []int{0, 0, 0}},
		// Equal least entries in one row: beside each other, apart, at the ends, and all.
		{[][]int{{2, 1, 1, 3}, {1, 2, 1, 2}, {2, 2, 2, 2}, {2, 0, 2, 0}}, []int{1, 0, 0, 1}},
		{[][]int{{1000, -1000, -1000, 1000, -1000, -1000}}, []int{1}},
		{steady(6, 6, 1000), filled(6, 0)},
		{steady(6, 6, -1000), filled(6, 0)},
		{[][]int{{5, 4, 3, 2, 1, 0}, {0, 1, 2, 3, 4, 5}}, []int{5, 0}},
		{[][]int{{999, 1000}, {-999, -1000}}, []int{0, 1}},
	} {
		got, ok := impl.TableLeast(c.table)
		wantList(t, got, ok, c.want, "TableLeast", c.table)
	}
	for _, table := range noTables() {
		got, ok := impl.TableLeast(table)
		wantNone(t, got, ok, "TableLeast", table)
	}
}

// stairs returns crossed tables whose least entries stand in columns that are told, in ascending order.
func stairs(columns []int, m int) [][]int {
	return tableOf(len(columns), m, func(i int, k int) int { return distance(k, columns[i]) })
}

func TestTableQuick(t *testing.T) {
	quick, others := 0, 0
	for _, table := range manyTables() {
		got, ok := impl.TableQuick(table)
		if isCrossed(table) {
			quick++
			wantList(t, got, ok, leastOf(table), "TableQuick", table)
		} else {
			others++
			wantNone(t, got, ok, "TableQuick", table)
		}
	}
	if quick < 500 || others < 500 {
		t.Fatalf("TableQuick was asked for %d tables that are crossed, and for %d others", quick, others)
	}
	// All ways that the columns may go, for even and odd numbers of rows.
	for n := 1; n <= tableMax; n++ {
		for _, columns := range rowsOf(n, 0, 1, 3, 4, 5) {
			if len(columns) == n && slices.IsSorted(columns) {
				got, ok := impl.TableQuick(stairs(columns, 6))
				wantList(t, got, ok, columns, "TableQuick", stairs(columns, 6))
			}
		}
	}
	for _, c := range []struct {
		table [][]int
		want  []int
	}{
		{[][]int{{7}}, []int{0}},
		{[][]int{{3, 1, 2, 1}}, []int{1}},
		{[][]int{{3}, {1}, {2}, {0}}, []int{0, 0, 0, 0}},
		{[][]int{{0, 1}, {1, 0}}, []int{0, 1}},
		{[][]int{{0, 0}, {1, 0}}, []int{0, 1}},
		{[][]int{{0, 0}, {0, 0}}, []int{0, 0}},
		{[][]int{{1, 0, 0, 0}, {2, 1, 1, 0}, {3, 2, 2, 0}, {9, 8, 8, 6}}, []int{1, 3, 3, 3}},
		{[][]int{{-1000, 1000}, {1000, -1000}}, []int{0, 1}},
		{steady(6, 6, 1000), filled(6, 0)},
	} {
		got, ok := impl.TableQuick(c.table)
		wantList(t, got, ok, c.want, "TableQuick", c.table)
	}
	for _, table := range append(noTables(), [][]int{{0, 0}, {0, 1}}, [][]int{{1, 0}, {0, 1}}, [][]int{{1000, -1000}, {-1000, 1000}}) {
		got, ok := impl.TableQuick(table)
		wantNone(t, got, ok, "TableQuick", table)
	}
}

func TestTableMerge(t *testing.T) {
	merged, failed := 0, 0
	for _, a := range fewTables() {
		for _, b := range fewTables() {
			got, ok := impl.TableMerge(a, b)
			if len(a[0]) != len(b) {
				wantNoTable(t, got, ok, "TableMerge", a, b)
				continue
			}
			wantTable(t, got, ok, mergedTable(a, b), "TableMerge", a, b)
			if ok {
				merged++
			} else {
				failed++
			}
		}
	}
	if merged < 1000 || failed < 100 {
		t.Fatalf("TableMerge succeeded %d times, and failed %d times for tables that fit", merged, failed)
	}
	for _, c := range []struct{ a, b, want [][]int }{
		{[][]int{{3}}, [][]int{{4}}, [][]int{{7}}},
		{[][]int{{500}}, [][]int{{500}}, [][]int{{1000}}},
		{[][]int{{-500}}, [][]int{{-500}}, [][]int{{-1000}}},
		{[][]int{{1000}}, [][]int{{-1000}}, [][]int{{0}}},
		{[][]int{{1, 2}}, [][]int{{5}, {3}}, [][]int{{5}}},
		{[][]int{{1}, {2}}, [][]int{{5, 3}}, [][]int{{6, 4}, {7, 5}}},
		{[][]int{{1, 4}, {0, 1}}, [][]int{{0, 9}, {2, 3}}, [][]int{{1, 7}, {0, 4}}},
		{[][]int{{1, 4, 0}, {0, 1, 9}}, [][]int{{0}, {2}, {3}}, [][]int{{1}, {0}}},
		// The greatest sum is no entry, but it is not the least one of its spot.
		{[][]int{{1000, 0}}, [][]int{{1000}, {5}}, [][]int{{5}}},
		{[][]int{{600, 500}}, [][]int{{600}, {500}}, [][]int{{1000}}},
		{steady(6, 6, 500), steady(6, 6, 500), steady(6, 6, 1000)},
		{steady(6, 1, 3), steady(1, 6, 4), steady(6, 6, 7)},
		{steady(1, 6, 3), steady(6, 1, 4), [][]int{{7}}},
	} {
		got, ok := impl.TableMerge(c.a, c.b)
		wantTable(t, got, ok, c.want, "TableMerge", c.a, c.b)
	}
}

func TestTableMergeFails(t *testing.T) {
	wantNot := func(a [][]int, b [][]int) {
		t.Helper()
		got, ok := impl.TableMerge(a, b)
		wantNoTable(t, got, ok, "TableMerge", a, b)
	}
	for _, p := range [][2][][]int{
		// Sums that are too great, or too far below 0, at the first spot, at the last one, and between.
		{{{1000}}, {{1}}}, {{{-1000}}, {{-1}}}, {{{501}}, {{500}}}, {{{-501}}, {{-500}}}, {{{1000}}, {{1000}}}, {{{-1000}}, {{-1000}}},
		{{{1000, 1000}}, {{1}, {1}}}, {{{-1000, 0}}, {{-1}, {0}}}, {{{0, -1000}}, {{0}, {-1}}},
		{{{1}, {0}}, {{1000, 0}}}, {{{0}, {1}}, {{0, 1000}}}, {{{0}, {1}, {0}}, {{0, 1000, 0}}}, {{{0}, {-1}, {0}}, {{0, -1000, 0}}},
		{steady(6, 6, 501), steady(6, 6, 500)}, {withEntry(steady(6, 6, 0), 5, 0, -501), withEntry(steady(6, 6, 0), 0, 5, -500)},
		// Tables that do not fit, one of them exchanged even if they fit then.
		{{{1, 2}}, {{1, 2}}}, {{{1}, {2}}, {{1}, {2}}}, {{{1, 2}}, {{3}}}, {{{3}}, {{1}, {2}}}, {steady(2, 3, 0), steady(2, 3, 0)},
		{steady(6, 5, 0), steady(6, 6, 0)}, {steady(5, 6, 0), steady(5, 6, 0)}, {steady(1, 6, 0), steady(1, 6, 0)}, {steady(6, 1, 0), steady(6, 1, 0)},
	} {
		wantNot(p[0], p[1])
	}
	for _, a := range noTables() {
		for _, b := range append(noTables(), steady(1, 1, 0), steady(2, 2, 0), steady(3, 3, 0), steady(6, 6, 0), steady(1, 2, 0), steady(2, 1, 0), steady(6, 1, 0), steady(1, 6, 0)) {
			wantNot(a, b)
			wantNot(b, a)
		}
	}
}

func TestTableMatch(t *testing.T) {
	all := [][][]int{}
	for n := range tableMax + 1 {
		all = append(all, orders(n))
	}
	for _, table := range squareTables() {
		wantMatch(t, table, all[len(table)])
	}
	for _, c := range []struct {
		table [][]int
		cost  int
		match []int
	}{
		{[][]int{{7}}, 7, []int{0}},
		{[][]int{{-1000}}, -1000, []int{0}},
		{[][]int{{1, 4}, {0, 1}}, 2, []int{0, 1}},
		{[][]int{{4, 1}, {1, 0}}, 2, []int{1, 0}},
		{[][]int{{1000, -1000}, {-1000, 1000}}, -2000, []int{1, 0}},
		// Several matches of the least cost: all of them, and some.
		{[][]int{{0, 0}, {0, 0}}, 0, []int{0, 1}},
		{[][]int{{1, 2, 3}, {2, 3, 4}, {3, 4, 5}}, 9, []int{0, 1, 2}},
		{[][]int{{1, 0, 0}, {1, 0, 0}, {1, 1, 0}}, 1, []int{0, 1, 2}},
		{[][]int{{5, 0, 0}, {0, 5, 0}, {0, 0, 5}}, 0, []int{1, 2, 0}},
		{[][]int{{1, 0, 1}, {0, 1, 1}, {0, 0, 1}}, 1, []int{1, 0, 2}},
		{[][]int{{9, 0, 0, 9}, {0, 9, 9, 0}, {0, 9, 9, 0}, {9, 0, 0, 9}}, 0, []int{1, 0, 3, 2}},
		{steady(6, 6, 1000), 6000, []int{0, 1, 2, 3, 4, 5}},
		{steady(6, 6, -1000), -6000, []int{0, 1, 2, 3, 4, 5}},
		{tableOf(6, 6, func(i int, k int) int { return i * k }), 20, []int{5, 4, 3, 2, 1, 0}},
		{tableOf(6, 6, func(i int, k int) int { return -i * k }), -55, []int{0, 1, 2, 3, 4, 5}},
		{tableOf(6, 6, func(i int, k int) int { return 1000 - 2000*((4*i+k+1)%6/5) }), 0, []int{1, 0, 2, 4, 3, 5}},
	} {
		wantMatch(t, c.table, [][]int{c.match})
		if cost, _, _ := impl.TableMatch(c.table); cost != c.cost {
			t.Errorf("TableMatch of %v returned %d", c.table, cost)
		}
	}
	for _, table := range manyTables() {
		if len(table) != len(table[0]) {
			wantNoMatch(t, table)
		}
	}
	for _, table := range append(noTables(), steady(1, 2, 0), steady(2, 1, 0), steady(6, 5, 0), steady(5, 6, 0), steady(1, 6, 0), steady(6, 1, 0)) {
		wantNoMatch(t, table)
	}
}

// wantMatch checks TableMatch against the first one of some matches that costs least.
func wantMatch(t *testing.T, table [][]int, all [][]int) {
	t.Helper()
	cost, match, ok := impl.TableMatch(table)
	wantCost, want := matchOf(table, all)
	wantNumber(t, cost, ok, wantCost, true, "TableMatch", table)
	wantList(t, match, ok, want, "TableMatch", table)
}

func wantNoMatch(t *testing.T, table [][]int) {
	t.Helper()
	cost, match, ok := impl.TableMatch(table)
	wantNumber(t, cost, ok, 0, false, "TableMatch", table)
	wantNone(t, match, ok, "TableMatch", table)
}

func TestTableLoad(t *testing.T) {
	for n := 1; n <= tableMax; n++ {
		for m := 1; m <= tableMax; m++ {
			// What a table has as its entries tells nothing about its loads.
			for _, table := range [][][]int{steady(n, m, 0), anyOne(n, m, 1000, n+m)} {
				for _, r := range requests(n, m) {
					got, ok := impl.TableLoad(table, r.rows, r.columns)
					wantTable(t, got, ok, loadOf(r.rows, r.columns), "TableLoad", table, r.rows, r.columns)
				}
			}
		}
	}
	for n := 1; n <= 3; n++ {
		for m := 1; m <= 3; m++ {
			for _, r := range smallRequests(n, m, 4) {
				got, ok := impl.TableLoad(steady(n, m, 1), r.rows, r.columns)
				wantTable(t, got, ok, loadOf(r.rows, r.columns), "TableLoad", r.rows, r.columns)
			}
		}
	}
	for _, c := range []struct {
		rows, columns []int
		want          [][]int
	}{
		{[]int{2, 1}, []int{1, 2}, [][]int{{1, 1}, {0, 1}}},
		{[]int{9}, []int{9}, [][]int{{9}}},
		{[]int{0}, []int{0}, [][]int{{0}}},
		{[]int{9}, []int{3, 0, 6}, [][]int{{3, 0, 6}}},
		{[]int{3, 0, 6}, []int{9}, [][]int{{3}, {0}, {6}}},
		{[]int{9, 9}, []int{9, 9}, [][]int{{9, 0}, {0, 9}}},
		{[]int{0, 9}, []int{9, 0}, [][]int{{0, 0}, {9, 0}}},
		{[]int{9, 0}, []int{0, 9}, [][]int{{0, 9}, {0, 0}}},
		{[]int{0, 0, 4}, []int{0, 4, 0}, [][]int{{0, 0, 0}, {0, 0, 0}, {0, 4, 0}}},
		{[]int{0, 0}, []int{0, 0, 0}, [][]int{{0, 0, 0}, {0, 0, 0}}},
		// A row and a column used up at once.
		{[]int{2, 3}, []int{2, 3}, [][]int{{2, 0}, {0, 3}}},
		{[]int{2, 3, 1}, []int{1, 1, 4}, [][]int{{1, 1, 0}, {0, 0, 3}, {0, 0, 1}}},
		{[]int{2, 0, 3}, []int{2, 0, 3}, [][]int{{2, 0, 0}, {0, 0, 0}, {0, 0, 3}}},
		{[]int{9, 9, 9, 9, 9, 9}, []int{9, 9, 9, 9, 9, 9}, tableOf(6, 6, func(i int, k int) int { return 9 * (1 - min(1, distance(i, k))) })},
		{[]int{9, 9, 9, 9, 9, 0}, []int{0, 9, 9, 9, 9, 9}, tableOf(6, 6, func(i int, k int) int { return 9 * (1 - min(1, distance(i+1, k))) })},
	} {
		got, ok := impl.TableLoad(steady(len(c.rows), len(c.columns), -1000), c.rows, c.columns)
		wantTable(t, got, ok, c.want, "TableLoad", c.rows, c.columns)
	}
}

// badRequests returns amounts that a table of n rows and m columns does not allow.
func badRequests(n int, m int) []request {
	var all []request
	for _, rows := range noAmounts(n) {
		for _, columns := range append(noAmounts(m), filled(m, 0), filled(m, 1)) {
			all = append(all, request{rows, columns})
		}
	}
	for _, columns := range noAmounts(m) {
		all = append(all, request{filled(n, 0), columns}, request{filled(n, 1), columns})
	}
	// Sums that differ.
	for i := range n {
		for _, x := range []int{1, 2, 9} {
			rows := filled(n, 0)
			rows[i] = x
			all = append(all, request{rows, filled(m, 0)})
		}
	}
	for k := range m {
		for _, x := range []int{1, 2, 9} {
			columns := filled(m, 0)
			columns[k] = x
			all = append(all, request{filled(n, 0), columns})
		}
	}
	if n != m {
		all = append(all, request{filled(m, 1), filled(n, 1)}, request{filled(n, 1), filled(m, 1)})
	}
	return all
}

func TestTableLoadFails(t *testing.T) {
	for n := 1; n <= tableMax; n++ {
		for m := 1; m <= tableMax; m++ {
			for _, r := range badRequests(n, m) {
				got, ok := impl.TableLoad(steady(n, m, 1), r.rows, r.columns)
				wantNoTable(t, got, ok, "TableLoad", n, m, r.rows, r.columns)
			}
		}
	}
	for _, table := range noTables() {
		for _, r := range []request{{nil, nil}, {filled(len(table), 0), filled(len(table), 0)}, {[]int{1}, []int{1}}, {[]int{1, 2}, []int{2, 1}}, {filled(7, 1), filled(7, 1)}} {
			got, ok := impl.TableLoad(table, r.rows, r.columns)
			wantNoTable(t, got, ok, "TableLoad", table, r.rows, r.columns)
		}
		if len(table) > 0 {
			got, ok := impl.TableLoad(table, filled(len(table), 0), filled(len(table[0]), 0))
			wantNoTable(t, got, ok, "TableLoad", table)
		}
	}
}

// someLoads returns tables of n rows and m columns with amounts from 0 to 9.
func someLoads(n int, m int) [][][]int {
	all := [][][]int{steady(n, m, 0), steady(n, m, 9), tableOf(n, m, func(i int, k int) int { return (3*i + 7*k + 1) % 10 })}
	draw := draws(n + 11*m)
	for range 5 {
		all = append(all, tableOf(n, m, func(int, int) int { return draw(amountMax + 1) }))
	}
	return all
}

func TestTableCost(t *testing.T) {
	for n := 1; n <= tableMax; n++ {
		for m := 1; m <= tableMax; m++ {
			for _, table := range [][][]int{steady(n, m, 1000), steady(n, m, -1000), anyOne(n, m, 1000, n), anyOne(n, m, 9, m)} {
				for _, load := range someLoads(n, m) {
					got, ok := impl.TableCost(table, load)
					wantNumber(t, got, ok, loadCost(table, load), true, "TableCost", table, load)
				}
			}
		}
	}
	for _, c := range []struct {
		table, load [][]int
		want        int
	}{
		{[][]int{{7}}, [][]int{{0}}, 0},
		{[][]int{{7}}, [][]int{{9}}, 63},
		{[][]int{{-1000}}, [][]int{{9}}, -9000},
		{[][]int{{1, 4}, {0, 1}}, [][]int{{1, 1}, {0, 1}}, 6},
		{[][]int{{1, 2, 3}}, [][]int{{4, 5, 6}}, 32},
		{[][]int{{1}, {2}, {3}}, [][]int{{4}, {5}, {6}}, 32},
		// Each amount is from 0 to 9, whatever they add up to.
		{steady(6, 6, 1000), steady(6, 6, 9), 324000},
		{steady(6, 6, -1000), steady(6, 6, 9), -324000},
		{steady(1, 2, 1), steady(1, 2, 9), 18},
	} {
		got, ok := impl.TableCost(c.table, c.load)
		wantNumber(t, got, ok, c.want, true, "TableCost", c.table, c.load)
	}
}

func TestTableCostFails(t *testing.T) {
	wantNot := func(table [][]int, load [][]int) {
		t.Helper()
		got, ok := impl.TableCost(table, load)
		wantNumber(t, got, ok, 0, false, "TableCost", table, load)
	}
	for n := 1; n <= 7; n++ {
		for m := 1; m <= 7; m++ {
			for _, size := range [][2]int{{n + 1, m}, {n, m + 1}, {n - 1, m}, {m, n}, {n + 1, m + 1}, {m + 1, n}} {
				if size != [2]int{n, m} {
					wantNot(steady(n, m, 0), steady(size[0], size[1], 0))
				}
			}
			for i := range n {
				for k := range m {
					for _, x := range append(outside(), -1, -9, amountMax+1, 99, 1000, -1000) {
						wantNot(steady(n, m, 0), withEntry(steady(n, m, 0), i, k, x))
						wantNot(steady(n, m, 1), withEntry(steady(n, m, 9), i, k, x))
					}
				}
			}
		}
	}
	for _, table := range noTables() {
		wantNot(table, table)
		for _, other := range [][][]int{nil, {{}}, {{0}}, steady(2, 2, 0), steady(6, 6, 0), steady(7, 7, 0)} {
			wantNot(table, other)
			wantNot(other, table)
		}
		if len(table) > 0 {
			wantNot(table, steady(len(table), len(table[0]), 0))
			wantNot(steady(len(table), len(table[0]), 0), table)
		}
	}
}

func TestTableBetter(t *testing.T) {
	for n := 1; n <= 3; n++ {
		for m := 1; m <= 3; m++ {
			tables := [][][]int{steady(n, m, 1000), steady(n, m, -1000), anyOne(n, m, 1000, n), anyOne(n, m, 9, m), anyOne(n, m, 1, n+m), crossedOne(n, m, 9, n*m)}
			for _, r := range slices.Concat(smallRequests(n, m, 3), fullRequests(n, m)) {
				for _, table := range tables {
					got, ok := impl.TableBetter(table, r.rows, r.columns)
					wantNumber(t, got, ok, betterOf(table, r.rows, r.columns), true, "TableBetter", table, r.rows, r.columns)
				}
			}
		}
	}
	for _, c := range []struct {
		table         [][]int
		rows, columns []int
		want          int
	}{
		{[][]int{{7}}, []int{0}, []int{0}, 0},
		{[][]int{{7}}, []int{8}, []int{8}, 56},
		{[][]int{{-1000}}, []int{8}, []int{8}, -8000},
		{[][]int{{1, 4}, {0, 1}}, []int{2, 1}, []int{1, 2}, 6},
		{[][]int{{4, 1}, {1, 0}}, []int{2, 1}, []int{1, 2}, 3},
		{[][]int{{1, 2, 3}}, []int{8}, []int{1, 0, 7}, 22},
		{[][]int{{1}, {2}, {3}}, []int{1, 0, 7}, []int{8}, 22},
		{[][]int{{0, -5}, {-5, 0}}, []int{4, 4}, []int{4, 4}, -40},
		{[][]int{{9, 9, 0}, {9, 0, 9}, {0, 9, 9}}, []int{3, 3, 2}, []int{2, 3, 3}, 0},
		{[][]int{{9, 9, 0}, {9, 0, 9}, {0, 9, 9}}, []int{3, 3, 2}, []int{3, 3, 2}, 9},
		{steady(3, 3, 1000), []int{0, 8, 0}, []int{0, 0, 8}, 8000},
		{steady(3, 3, 1000), []int{0, 0, 0}, []int{0, 0, 0}, 0},
	} {
		got, ok := impl.TableBetter(c.table, c.rows, c.columns)
		wantNumber(t, got, ok, c.want, true, "TableBetter", c.table, c.rows, c.columns)
	}
}

// fullRequests returns some of n rows and m columns with the sum 8, the greatest one for which all loads are tried.
func fullRequests(n int, m int) []request {
	var all []request
	for _, rows := range amountsOf(n, 8, 0, 1, 2, 3, 4, 8) {
		for _, columns := range amountsOf(m, 8, 0, 2, 3, 4, 8) {
			all = append(all, request{rows, columns})
		}
	}
	return all
}

// TestTableBetterTried takes all lists of as many amounts for small tables, and looks which of them are loads.
func TestTableBetterTried(t *testing.T) {
	for _, size := range [][2]int{{1, 1}, {1, 2}, {2, 1}, {2, 2}, {2, 3}, {3, 2}} {
		n, m := size[0], size[1]
		loads := tablesOf(n, m, 0, 1, 2, 3)
		for _, table := range [][][]int{anyOne(n, m, 5, 1), anyOne(n, m, 1, 2), crossedOne(n, m, 4, 3)} {
			for _, r := range smallRequests(n, m, 3) {
				want := 1 << 40
				for _, load := range loads {
					if addsUp(load, r.rows) && addsUp(across(load), r.columns) {
						want = min(want, loadCost(table, load))
					}
				}
				got, ok := impl.TableBetter(table, r.rows, r.columns)
				wantNumber(t, got, ok, want, true, "TableBetter", table, r.rows, r.columns)
			}
		}
	}
}

// addsUp reports whether each row of a load adds up to the amount told.
func addsUp(load [][]int, amounts []int) bool {
	for i, a := range load {
		if sumOf(a) != amounts[i] {
			return false
		}
	}
	return len(load) == len(amounts)
}

func TestTableBetterFails(t *testing.T) {
	wantNot := func(table [][]int, rows []int, columns []int) {
		t.Helper()
		got, ok := impl.TableBetter(table, rows, columns)
		wantNumber(t, got, ok, 0, false, "TableBetter", table, rows, columns)
	}
	for n := 1; n <= tableMax; n++ {
		for m := 1; m <= tableMax; m++ {
			for _, r := range badRequests(n, m) {
				wantNot(steady(n, m, 1), r.rows, r.columns)
			}
			if n > 3 || m > 3 {
				wantNot(steady(n, m, 0), filled(n, 0), filled(m, 0))
				wantNot(steady(n, m, 1), append([]int{4}, filled(n-1, 0)...), append(filled(m-1, 0), 4))
			}
		}
	}
	for _, r := range []request{
		// Sums greater than 8, although all amounts are as told.
		{[]int{9}, []int{9}}, {[]int{9}, []int{4, 5}}, {[]int{5, 4}, []int{9}}, {[]int{9}, []int{3, 3, 3}}, {[]int{3, 3, 3}, []int{9}},
		{[]int{9, 0}, []int{0, 9}}, {[]int{3, 3, 3}, []int{3, 3, 3}}, {[]int{9, 9, 9}, []int{9, 9, 9}}, {[]int{4, 5, 0}, []int{0, 5, 4}}, {[]int{9, 1}, []int{5, 5}},
		// Sums that differ, one of them 8 or 9.
		{[]int{8}, []int{9}}, {[]int{9}, []int{8}}, {[]int{4, 4}, []int{4, 5}}, {[]int{4, 5}, []int{4, 4}}, {[]int{8}, []int{7}}, {[]int{2, 3, 3}, []int{3, 3, 3}},
	} {
		wantNot(steady(len(r.rows), len(r.columns), 0), r.rows, r.columns)
	}
	for _, table := range noTables() {
		wantNot(table, nil, nil)
		wantNot(table, []int{1}, []int{1})
		wantNot(table, []int{1, 2}, []int{2, 1})
		if len(table) > 0 {
			wantNot(table, filled(len(table), 0), filled(len(table[0]), 0))
		}
	}
}
