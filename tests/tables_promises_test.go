package tests

import (
	"slices"
	"testing"

	"loop.example/bentrows/impl"
)

func TestPromise45(t *testing.T) {
	held := 0
	for _, table := range manyTables() {
		crossed := impl.TableCrossed(table)
		if impl.TableCrossed(across(table)) != crossed {
			t.Fatalf("TableCrossed of %v returned %t, but not with rows and columns exchanged", table, crossed)
		}
		if !crossed {
			continue
		}
		held++
		for i := range table {
			for j := i + 1; j < len(table); j++ {
				for k := range table[i] {
					for l := k + 1; l < len(table[i]); l++ {
						if table[i][k]+table[j][l] > table[i][l]+table[j][k] {
							t.Fatalf("TableCrossed holds for %v, but not at the rows %d and %d and the columns %d and %d", table, i, j, k, l)
						}
					}
				}
			}
		}
	}
	if held < 500 {
		t.Fatalf("TableCrossed held only for %d tables", held)
	}
}

func TestPromise46(t *testing.T) {
	bent, others := 0, 0
	rows := slices.Concat(manyRows(), rowsOf(3, -2, 0, 1, 5), bentOnes(rowsOf(6, 0, 1, 3)))
	for n := 2; n <= tableMax; n++ {
		rows = append(rows, counted(2*n-1, 0, 3), counted(2*n-1, 3, -5), withEntry([][]int{filled(2*n-1, 0)}, 0, n-1, -1)[0], withEntry([][]int{filled(2*n-1, 0)}, 0, n-1, 1)[0])
	}
	for _, a := range rows {
		for n := 2; n <= tableMax; n++ {
			table, ok := impl.TableOf(n, len(a)+1-n, a)
			if m := len(a) + 1 - n; ok != (m >= 1 && m <= tableMax) {
				t.Fatalf("TableOf of %d, %d and %v returned %t", n, m, a, ok)
			}
			if !ok || len(a)+1-n < 2 {
				continue
			}
			if impl.TableCrossed(table) != impl.RowBent(a) {
				t.Fatalf("TableOf of the row %v returned %v, of which TableCrossed is %t", a, table, impl.TableCrossed(table))
			}
			if impl.RowBent(a) {
				bent++
			} else {
				others++
			}
		}
	}
	if bent < 300 || others < 300 {
		t.Fatalf("TableOf succeeded only for %d bent rows and %d others", bent, others)
	}
}

func TestPromise47(t *testing.T) {
	crossed := 0
	for _, table := range manyTables() {
		columns, ok := impl.TableLeast(table)
		if !ok || len(columns) != len(table) {
			t.Fatalf("TableLeast of %v returned %v, %t", table, columns, ok)
		}
		for i, k := range columns {
			for l, x := range table[i] {
				if x < table[i][k] || x == table[i][k] && l < k {
					t.Fatalf("TableLeast of %v returned %d for the row %d", table, k, i)
				}
			}
		}
		if impl.TableCrossed(table) {
			crossed++
			if !slices.IsSorted(columns) {
				t.Fatalf("TableLeast of the crossed table %v returned %v", table, columns)
			}
		}
	}
	if crossed < 500 {
		t.Fatalf("TableCrossed held only for %d tables", crossed)
	}
}

func TestPromise48(t *testing.T) {
	succeeded := 0
	for _, table := range manyTables() {
		quick, ok := impl.TableQuick(table)
		if ok != impl.TableCrossed(table) {
			t.Fatalf("TableQuick of %v returned %t", table, ok)
		}
		if !ok {
			continue
		}
		succeeded++
		if columns, _ := impl.TableLeast(table); !slices.Equal(quick, columns) {
			t.Fatalf("TableQuick of %v returned %v, but TableLeast %v", table, quick, columns)
		}
	}
	if succeeded < 500 {
		t.Fatalf("TableQuick succeeded only %d times", succeeded)
	}
}

func TestPromise49(t *testing.T) {
	succeeded, crossed := 0, 0
	for _, a := range fewTables() {
		for _, b := range fewTables() {
			merged, ok := impl.TableMerge(a, b)
			if len(a[0]) != len(b) {
				continue
			}
			turned, turnedOk := impl.TableMerge(across(b), across(a))
			if ok != turnedOk || ok && !sameTable(across(merged), turned) {
				t.Fatalf("TableMerge of %v and %v returned %v, %t, and turned across and exchanged %v, %t", a, b, merged, ok, turned, turnedOk)
			}
			if !ok {
				continue
			}
			succeeded++
			if impl.TableCrossed(a) && impl.TableCrossed(b) {
				crossed++
				if !impl.TableCrossed(merged) {
					t.Fatalf("TableMerge of the crossed tables %v and %v returned %v", a, b, merged)
				}
			}
		}
	}
	if succeeded < 1000 || crossed < 300 {
		t.Fatalf("TableMerge succeeded only %d times, and %d times for crossed tables", succeeded, crossed)
	}
}

func TestPromise50(t *testing.T) {
	crossed := 0
	for _, table := range squareTables() {
		cost, match, ok := impl.TableMatch(table)
		if ordered := slices.Sorted(slices.Values(match)); !ok || !slices.Equal(ordered, counted(len(table), 0, 1)) {
			t.Fatalf("TableMatch of %v returned %v, %t", table, match, ok)
		}
		if cost != matchCost(table, match) {
			t.Fatalf("TableMatch of %v returned %d and %v, which costs %d", table, cost, match, matchCost(table, match))
		}
		if impl.TableCrossed(table) {
			crossed++
			if !slices.IsSorted(match) {
				t.Fatalf("TableMatch of the crossed table %v returned %v", table, match)
			}
		}
	}
	if crossed < 200 {
		t.Fatalf("TableMatch was asked only for %d crossed tables", crossed)
	}
}

func TestPromise51(t *testing.T) {
	raised := 0
	for _, table := range squareTables() {
		cost, match, ok := impl.TableMatch(table)
		higher := cloned(table)
		for k := range higher[0] {
			higher[0][k]++
		}
		other, otherMatch, otherOk := impl.TableMatch(higher)
		if !ok || otherOk != isTable(higher) {
			t.Fatalf("TableMatch of %v and %v returned %t and %t", table, higher, ok, otherOk)
		}
		if !otherOk {
			continue
		}
		raised++
		if other != cost+1 || !slices.Equal(otherMatch, match) {
			t.Fatalf("TableMatch of %v returned %d and %v, and with 1 more in the first row %d and %v", table, cost, match, other, otherMatch)
		}
	}
	if raised < 500 {
		t.Fatalf("TableMatch was asked only for %d tables whose first row may be raised", raised)
	}
}

// askedLoads returns tables of all sizes, each with amounts for its rows and columns.
func askedLoads() []asked {
	var all []asked
	for n := 1; n <= tableMax; n++ {
		for m := 1; m <= tableMax; m++ {
			for _, r := range requests(n, m) {
				for _, table := range [][][]int{steady(n, m, -1000), anyOne(n, m, 1000, n), crossedOne(n, m, 9, m)} {
					all = append(all, asked{table, r})
				}
			}
		}
	}
	return all
}

type asked struct {
	table [][]int
	request
}

func TestPromise52(t *testing.T) {
	for _, a := range askedLoads() {
		load, ok := impl.TableLoad(a.table, a.rows, a.columns)
		if !ok || len(load) != len(a.table) || len(load[0]) != len(a.table[0]) {
			t.Fatalf("TableLoad of %v returned %v, %t", a, load, ok)
		}
		if !addsUp(load, a.rows) || !addsUp(across(load), a.columns) {
			t.Fatalf("TableLoad of %v returned %v, which does not add up to the amounts", a, load)
		}
		if _, ok := impl.TableCost(a.table, load); !ok {
			t.Fatalf("TableCost fails for the load %v of %v", load, a.table)
		}
	}
}

func TestPromise53(t *testing.T) {
	succeeded := 0
	for n := 1; n <= tableMax; n++ {
		for m := 1; m <= tableMax; m++ {
			for _, table := range [][][]int{steady(n, m, 1000), anyOne(n, m, 1000, n), crossedOne(n, m, 9, m)} {
				for _, load := range someLoads(n, m) {
					cost, ok := impl.TableCost(table, load)
					turned, turnedOk := impl.TableCost(across(table), across(load))
					if !ok || !turnedOk || cost != turned {
						t.Fatalf("TableCost of %v and %v returned %d, %t, and turned across %d, %t", table, load, cost, ok, turned, turnedOk)
					}
					succeeded++
				}
			}
		}
	}
	if succeeded < 500 {
		t.Fatalf("TableCost succeeded only %d times", succeeded)
	}
}

func TestPromise54(t *testing.T) {
	succeeded, crossed, less := 0, 0, 0
	for n := 1; n <= 3; n++ {
		for m := 1; m <= 3; m++ {
			tables := [][][]int{steady(n, m, -1000), anyOne(n, m, 1000, n), anyOne(n, m, 9, m), crossedOne(n, m, 9, m), crossedOne(n, m, 2, n)}
			for _, r := range slices.Concat(smallRequests(n, m, 3), fullRequests(n, m)) {
				for _, table := range tables {
					better, ok := impl.TableBetter(table, r.rows, r.columns)
					load, _ := impl.TableLoad(table, r.rows, r.columns)
					cost, costOk := impl.TableCost(table, load)
					if !ok || !costOk || better > cost {
						t.Fatalf("TableBetter of %v and %v returned %d, %t, and TableCost of TableLoad %d, %t", table, r, better, ok, cost, costOk)
					}
					succeeded++
					if better < cost {
						less++
					}
					if impl.TableCrossed(table) {
						crossed++
						if better != cost {
							t.Fatalf("TableBetter of the crossed table %v and %v returned %d, and TableCost of TableLoad %d", table, r, better, cost)
						}
					}
				}
			}
		}
	}
	if succeeded < 1000 || crossed < 500 || less < 200 {
		t.Fatalf("TableBetter succeeded %d times, %d times for crossed tables, and %d times with less than TableLoad", succeeded, crossed, less)
	}
}
