package tests

import (
	"slices"
	"testing"
)

const (
	tableMax  = 6
	amountMax = 9
)

// isTable says again what the document calls a table.
func isTable(t [][]int) bool {
	if len(t) < 1 || len(t) > tableMax {
		return false
	}
	for _, a := range t {
		if len(a) != len(t[0]) || len(a) > tableMax || !isRow(a) {
			return false
		}
	}
	return true
}

// isCrossed says again when a table is crossed, by all two rows and all two columns.
func isCrossed(t [][]int) bool {
	for i := range t {
		for j := i + 1; j < len(t); j++ {
			for k := range t[i] {
				for l := k + 1; l < len(t[i]); l++ {
					if t[i][k]+t[j][l] > t[i][l]+t[j][k] {
						return false
					}
				}
			}
		}
	}
	return true
}

// tableOf returns the table of n rows and m columns with what entry tells.
func tableOf(n int, m int, entry func(i int, k int) int) [][]int {
	t := make([][]int, n)
	for i := range t {
		for k := range m {
			t[i] = append(t[i], entry(i, k))
		}
	}
	return t
}

// steady returns the table of n rows and m columns with the same entry everywhere.
func steady(n int, m int, x int) [][]int {
	return tableOf(n, m, func(int, int) int { return x })
}

// across returns a table with rows and columns exchanged.
func across(t [][]int) [][]int {
	return tableOf(len(t[0]), len(t), func(i int, k int) int { return t[k][i] })
}

func cloned(t [][]int) [][]int {
	return tableOf(len(t), len(t[0]), func(i int, k int) int { return t[i][k] })
}

// withEntry returns a table with another entry at one spot.
func withEntry(t [][]int, i int, k int, x int) [][]int {
	changed := cloned(t)
	changed[i][k] = x
	return changed
}

func sameTable(t [][]int, u [][]int) bool {
	return slices.EqualFunc(t, u, slices.Equal)
}

// leastOf says again what TableLeast returns.
func leastOf(t [][]int) []int {
	var columns []int
	for _, a := range t {
		columns = append(columns, slices.Index(a, slices.Min(a)))
	}
	return columns
}

// mergedTable says again to which lists two tables are merged, by putting each sum to its spot; they may be no table.
func mergedTable(t [][]int, u [][]int) [][]int {
	merged := steady(len(t), len(u[0]), 1<<40)
	for j, a := range u {
		for k, y := range a {
			for i := range t {
				merged[i][k] = min(merged[i][k], t[i][j]+y)
			}
		}
	}
	return merged
}

// orders returns all lists that have each number from 0 to n - 1 once, in ascending order.
func orders(n int) [][]int {
	all := [][]int{{}}
	for x := range n {
		var longer [][]int
		for _, a := range all {
			for at := range len(a) + 1 {
				longer = append(longer, slices.Insert(slices.Clone(a), at, x))
			}
		}
		all = longer
	}
	slices.SortFunc(all, slices.Compare[[]int])
	return all
}

func matchCost(t [][]int, match []int) int {
	cost := 0
	for i, k := range match {
		cost += t[i][k]
	}
	return cost
}

// matchOf says again what TableMatch returns; all must have the orders of as many numbers as there are rows.
func matchOf(t [][]int, all [][]int) (int, []int) {
	first := slices.MinFunc(all, func(a []int, b []int) int { return matchCost(t, a) - matchCost(t, b) })
	return matchCost(t, first), first
}

// loadOf says again what TableLoad returns: if all things of the rows are counted through, and all of the columns, those with one number are given to each other.
func loadOf(rows []int, columns []int) [][]int {
	return tableOf(len(rows), len(columns), func(i int, k int) int {
		from := max(sumOf(rows[:i]), sumOf(columns[:k]))
		to := min(sumOf(rows[:i+1]), sumOf(columns[:k+1]))
		return max(0, to-from)
	})
}

// loadCost says again what a load costs.
func loadCost(t [][]int, load [][]int) int {
	cost := 0
	for i := range t {
		for k := range t[i] {
			cost += t[i][k] * load[i][k]
		}
	}
	return cost
}

// betterOf says again what TableBetter returns, by giving each unit of each row to a column, and keeping the least cost of what is given to the columns.
func betterOf(t [][]int, rows []int, columns []int) int {
	costs := map[[3]int]int{{}: 0}
	for i, amount := range rows {
		for range amount {
			next := map[[3]int]int{}
			for given, cost := range costs {
				for k, x := range t[i] {
					more := given
					more[k]++
					if old, ok := next[more]; !ok || cost+x < old {
						next[more] = cost + x
					}
				}
			}
			costs = next
		}
	}
	return costs[padded(columns)]
}

// padded returns up to 3 numbers, and 0 behind them.
func padded(a []int) [3]int {
	var three [3]int
	copy(three[:], a)
	return three
}

// tablesOf returns all tables of n rows and m columns with these values.
func tablesOf(n int, m int, values ...int) [][][]int {
	var all [][][]int
	for _, a := range rowsOf(n*m, values...) {
		if len(a) == n*m {
			all = append(all, tableOf(n, m, func(i int, k int) int { return a[i*m+k] }))
		}
	}
	return all
}

// draws returns a function that returns numbers from 0 to n - 1, one behind the other, always the same ones for one seed.
func draws(seed int) func(n int) int {
	return func(n int) int {
		seed = (seed*1103515245 + 12345) % (1 << 31)
		return (seed >> 12) % n
	}
}

// crossedOne returns a crossed table of n rows and m columns: numbers of rows and columns, less what all spots up to one take off, 0 to most - 1 each.
func crossedOne(n int, m int, most int, seed int) [][]int {
	draw := draws(seed)
	taken, ups := steady(n, m, 0), make([]int, n+m)
	for i := range ups {
		ups[i] = draw(4*most*n) - 1
	}
	for i := range n {
		for k := range m {
			taken[i][k] = draw(most)
		}
	}
	return tableOf(n, m, func(i int, k int) int {
		all := 0
		for _, a := range taken[:i+1] {
			all += sumOf(a[:k+1])
		}
		return ups[i] + ups[n+k] - all
	})
}

// anyOne returns a table of n rows and m columns of whatever entries from -most to most.
func anyOne(n int, m int, most int, seed int) [][]int {
	draw := draws(seed)
	return tableOf(n, m, func(int, int) int { return draw(2*most+1) - most })
}

// crossedTables returns crossed tables of all sizes.
func crossedTables() [][][]int {
	var all [][][]int
	for n := 1; n <= tableMax; n++ {
		for m := 1; m <= tableMax; m++ {
			all = append(all, steady(n, m, 0), steady(n, m, entryMax), steady(n, m, -entryMax))
			for seed := range 6 {
				all = append(all, crossedOne(n, m, 2, 7*seed+n), crossedOne(n, m, 9, 11*seed+m))
			}
		}
	}
	return slices.Concat(all, crossedOnes(slices.Concat(tablesOf(2, 2, -1, 0, 2), tablesOf(3, 3, 0, 1), tablesOf(2, 4, 0, 1), tablesOf(4, 2, 0, 1), limitTables())))
}

// limitTables returns tables with entries at the limits.
func limitTables() [][][]int {
	return [][][]int{
		{{1000}}, {{-1000}}, {{0}}, {{1000, -1000}}, {{-1000}, {1000}},
		{{-1000, 1000}, {1000, -1000}}, {{1000, -1000}, {-1000, 1000}}, {{-1000, 1000}, {-1000, 1000}}, {{1000, 1000}, {-1000, -1000}},
		{{1000, 1000, -1000}, {1000, 0, -1000}}, {{-1000, 0, 1000}, {0, 0, 0}, {1000, 0, -1000}}, {{1000, 0, -1000}, {0, 0, 0}, {-1000, 0, 1000}},
		{{-1000, -1000, -1000, -1000, -1000, -1000}}, {{999, 1000, 1000, 999, 1000, 999}}, {{1}, {0}, {-1000}, {1000}, {2}, {-999}},
		tableOf(tableMax, tableMax, func(i int, k int) int { return 40 * (i - k) * (i - k) }),
		tableOf(tableMax, tableMax, func(i int, k int) int { return -40 * i * k }),
		tableOf(tableMax, tableMax, func(i int, k int) int { return 40 * i * k }),
		tableOf(tableMax, tableMax, func(i int, k int) int { return 2000*((i+k)%2) - 1000 }),
	}
}

// crossedOnes returns the ones of these tables that are crossed.
func crossedOnes(tables [][][]int) [][][]int {
	return slices.DeleteFunc(tables, func(t [][]int) bool { return !isCrossed(t) })
}

// nearlyCrossed returns tables that are crossed but for one spot, whose entry is told otherwise at each spot in turn.
func nearlyCrossed() [][][]int {
	var all [][][]int
	for n := 2; n <= tableMax; n++ {
		for m := 2; m <= tableMax; m++ {
			for i := range n {
				for k := range m {
					all = append(all, withEntry(steady(n, m, 5), i, k, 6), withEntry(steady(n, m, 5), i, k, 4))
				}
			}
		}
	}
	return all
}

// manyTables returns tables to be taken one by one, crossed ones and others, of all sizes.
func manyTables() [][][]int {
	all := slices.Concat(crossedTables(), limitTables(), nearlyCrossed(), tablesOf(2, 2, -1, 0, 1, 2), tablesOf(3, 3, 0, 1), tablesOf(2, 3, 0, 1, 2))
	all = slices.Concat(all, tablesOf(3, 2, 0, 1, 2), tablesOf(1, 3, 0, 1, 2), tablesOf(3, 1, 0, 1, 2), tablesOf(1, 6, 0, 1))
	for n := 1; n <= tableMax; n++ {
		for m := 1; m <= tableMax; m++ {
			for seed := range 5 {
				all = append(all, anyOne(n, m, 2, seed+n), anyOne(n, m, entryMax, seed+m))
			}
		}
	}
	return all
}

// squareTables returns tables with as many rows as columns.
func squareTables() [][][]int {
	all := slices.DeleteFunc(manyTables(), func(t [][]int) bool { return len(t) != len(t[0]) })
	for n := 2; n <= tableMax; n++ {
		for seed := range 10 {
			all = append(all, anyOne(n, n, 1, 3*seed+n), anyOne(n, n, 60, seed+5*n))
		}
	}
	return all
}

// fewTables returns tables to be taken in pairs.
func fewTables() [][][]int {
	all := slices.Concat(limitTables(), tablesOf(1, 1, -1, 0, 3), tablesOf(2, 2, 0, 1), tablesOf(1, 2, -1, 0, 2), tablesOf(2, 1, -1, 0, 2))
	for n := 1; n <= tableMax; n++ {
		for m := 1; m <= tableMax; m++ {
			all = append(all, crossedOne(n, m, 3, n+m), crossedOne(n, m, 6, n*m), anyOne(n, m, 9, n+2*m), anyOne(n, m, 700, n+3*m))
		}
	}
	return all
}

// noTables returns lists that are no tables: none, empty ones, ones of different lengths, too many, too long ones, and one entry, at each spot in turn, that is too great.
func noTables() [][][]int {
	all := [][][]int{
		nil, {}, {nil}, {{}}, {{}, {}}, {nil, nil}, {{}, {}, {}, {}, {}, {}},
		{{1}, {}}, {{}, {1}}, {{1}, nil}, {nil, {1}}, {{1, 2}, {3}}, {{3}, {1, 2}}, {{1, 2}, {3, 4}, {5}}, {{1, 2}, {3}, {4, 5}}, {{1, 2, 3}, {4, 5}, {6, 7}},
		{{1, 2}, {3, 4, 5}}, {{1, 2, 3, 4, 5, 6}, {1, 2, 3, 4, 5, 6, 7}},
		steady(7, 7, 0), steady(7, 1, 0), steady(1, 7, 0), steady(7, 6, 0), steady(6, 7, 0), steady(2, 7, 0), steady(7, 2, 0), steady(3, 12, 1), steady(12, 3, 1), steady(100, 1, 0), steady(1, 100, 0),
	}
	for _, size := range [][2]int{{1, 1}, {1, 2}, {2, 1}, {2, 2}, {3, 3}, {6, 6}} {
		for i := range size[0] {
			for k := range size[1] {
				for _, x := range outside() {
					all = append(all, withEntry(steady(size[0], size[1], 0), i, k, x))
				}
			}
		}
	}
	return append(all, steady(2, 2, 1<<62), steady(2, 2, -1<<63), [][]int{{1001, -1001}, {-1001, 1001}})
}

// amountsOf returns all lists of n amounts with these values and a sum.
func amountsOf(n int, sum int, values ...int) [][]int {
	return slices.DeleteFunc(rowsOf(n, values...), func(a []int) bool { return len(a) != n || sumOf(a) != sum })
}

// request has the amounts of rows and of columns, with the same sum.
type request struct {
	rows, columns []int
}

// smallRequests returns all of n rows and m columns with sums up to most.
func smallRequests(n int, m int, most int) []request {
	var all []request
	for sum := range most + 1 {
		amounts := counted(sum+1, 0, 1)
		for _, rows := range amountsOf(n, sum, amounts...) {
			for _, columns := range amountsOf(m, sum, amounts...) {
				all = append(all, request{rows, columns})
			}
		}
	}
	return all
}

// requests returns some of n rows and m columns, with amounts up to 9, and with rows and columns of 0.
func requests(n int, m int) []request {
	all := []request{{filled(n, 0), filled(m, 0)}, {filled(n, m), filled(m, n)}}
	for _, a := range [][]int{{9, 0, 0, 0, 0, 0}, {0, 9, 9, 0, 0, 0}, {0, 0, 0, 0, 0, 9}, {9, 9, 9, 9, 9, 9}, {1, 2, 3, 4, 5, 6}, {0, 3, 0, 3, 0, 3}} {
		if sumOf(a[:n]) == sumOf(a[:m]) {
			all = append(all, request{a[:n], a[:m]}, request{backwards(a[:n]), a[:m]}, request{a[:n], backwards(a[:m])})
		}
	}
	draw := draws(n + 7*m)
	for range 40 {
		rows, columns := filled(n, 0), filled(m, 0)
		for range draw(9*min(n, m) + 1) {
			i, k := draw(n), draw(m)
			if rows[i] < amountMax && columns[k] < amountMax {
				rows[i]++
				columns[k]++
			}
		}
		all = append(all, request{rows, columns})
	}
	return all
}

// noAmounts returns lists that are not n amounts: too few, too many, or one of them, at each place in turn, negative or too great.
func noAmounts(n int) [][]int {
	all := [][]int{filled(n+1, 0), filled(n+1, 1), filled(n-1, 0), filled(n-1, 2), filled(100, 0), filled(n, 1<<62), filled(n, -1<<63)}
	for i := range n {
		for _, x := range append(outside(), -1, -9, amountMax+1, entryMax) {
			a := filled(n, 0)
			a[i] = x
			all = append(all, a)
		}
	}
	return all
}

// wantTable checks a result against the table that is told, or against a failure if these lists are none.
func wantTable(t *testing.T, got [][]int, ok bool, want [][]int, call string, args ...any) {
	t.Helper()
	if !isTable(want) {
		wantNoTable(t, got, ok, call, args...)
		return
	}
	if !ok || !sameTable(got, want) {
		t.Fatalf("%s of %v returned %v, %t; want %v, true", call, args, got, ok, want)
	}
}

// wantNoTable checks that a call failed, with nothing beside the false.
func wantNoTable(t *testing.T, got [][]int, ok bool, call string, args ...any) {
	t.Helper()
	if ok || len(got) != 0 {
		t.Fatalf("%s of %v returned %v, %t; want nothing, false", call, args, got, ok)
	}
}

// wantNumber checks a number against the one that is told.
func wantNumber(t *testing.T, got int, ok bool, want int, wantOk bool, call string, args ...any) {
	t.Helper()
	if got != want || ok != wantOk {
		t.Fatalf("%s of %v returned %d, %t; want %d, %t", call, args, got, ok, want, wantOk)
	}
}
