package tests

import (
	"cmp"
	"slices"
	"testing"
)

// spot is a row and a column of a grid.
type spot struct {
	i, k int
}

func (p spot) of(t [][]int) int {
	return t[p.i][p.k]
}

// spotsOf returns all spots of a grid, row by row.
func spotsOf(t [][]int) []spot {
	var all []spot
	for i, a := range t {
		for k := range a {
			all = append(all, spot{i, k})
		}
	}
	return all
}

// inOrderOf returns spots in the order of the entries that a grid has there, then of rows, and then of columns.
func inOrderOf(t [][]int, spots []spot) []spot {
	return slices.SortedFunc(slices.Values(spots), func(p spot, q spot) int {
		return cmp.Or(cmp.Compare(p.of(t), q.of(t)), cmp.Compare(p.i, q.i), cmp.Compare(p.k, q.k))
	})
}

// meeting lets two numbers go towards each other, as long as there is one between, and returns the lesser one and the greater one.
func meeting(x int, y int) (int, int) {
	low, high := min(x, y), max(x, y)
	for high > low+1 {
		low, high = low+1, high-1
	}
	return low, high
}

// isMiddled says again when a grid is middled, by letting each two spots go towards each other.
func isMiddled(t [][]int) bool {
	for _, p := range spotsOf(t) {
		for _, q := range spotsOf(t) {
			i, x := meeting(p.i, q.i)
			k, y := meeting(p.k, q.k)
			if p.of(t)+q.of(t) < t[i][k]+t[x][y] {
				return false
			}
		}
	}
	return true
}

// isShifted says in another way when a grid is middled: if one of two spots is moved by as much in its row and its column, the entries at both highest and both lowest numbers have together no more.
func isShifted(t [][]int) bool {
	for _, p := range spotsOf(t) {
		for _, q := range spotsOf(t) {
			for by := range tableMax {
				high := spot{max(p.i-by, q.i), max(p.k-by, q.k)}
				low := spot{min(p.i, q.i+by), min(p.k, q.k+by)}
				if p.of(t)+q.of(t) < high.of(t)+low.of(t) {
					return false
				}
			}
		}
	}
	return true
}

// isNear says again when a spot is nearby another one: neither the row nor the column differs by more than 1, nor do they differ both ways, and it is another spot.
func isNear(p spot, q spot) bool {
	di, dk := q.i-p.i, q.k-p.k
	return max(di, -di) <= 1 && max(dk, -dk) <= 1 && di+dk != 0
}

// nearOf returns the nearby spots of a spot, those with the least entries first.
func nearOf(t [][]int, p spot) []spot {
	others := slices.DeleteFunc(spotsOf(t), func(q spot) bool { return !isNear(p, q) })
	return inOrderOf(t, others)
}

// isLow says again whether no nearby spot has a lesser entry.
func isLow(t [][]int, p spot) bool {
	return !slices.ContainsFunc(nearOf(t, p), func(q spot) bool { return q.of(t) < p.of(t) })
}

// downFrom says again at which spots one comes by who goes down from a spot, this one ahead.
func downFrom(t [][]int, p spot) []spot {
	if isLow(t, p) {
		return []spot{p}
	}
	return append([]spot{p}, downFrom(t, nearOf(t, p)[0])...)
}

// farsFrom says again how far all spots are from one, by going on to the nearby ones until all are told.
func farsFrom(t [][]int, p spot) map[spot]int {
	fars := map[spot]int{p: 0}
	reached := []spot{p}
	for len(reached) > 0 {
		at := reached[0]
		reached = reached[1:]
		for _, q := range nearOf(t, at) {
			if _, told := fars[q]; !told {
				fars[q] = fars[at] + 1
				reached = append(reached, q)
			}
		}
	}
	return fars
}

// bentRow returns a bent row of n entries with whatever slopes from -most to most.
func bentRow(n int, most int, seed int) []int {
	draw := draws(seed)
	slopes := make([]int, n-1)
	for i := range slopes {
		slopes[i] = draw(2*most+1) - most
	}
	a := []int{draw(2*most+1) - most}
	for _, s := range slices.Sorted(slices.Values(slopes)) {
		a = append(a, a[len(a)-1]+s)
	}
	return a
}

// threeRows are the rows that tell a grid.
type threeRows struct {
	f, g, h []int
}

// grid says again which lists three rows tell, made row by row from the end on; they may be no grid.
func (r threeRows) grid() [][]int {
	t := make([][]int, len(r.f))
	for up := range t {
		i := len(t) - 1 - up
		t[i] = pairwise(r.g, r.h[up:up+len(r.g)], func(x int, y int) int { return x + y + r.f[i] })
	}
	return t
}

// bentRows returns bent rows for grids of all sizes, drawn with slopes of different ranges.
func bentRows() []threeRows {
	var all []threeRows
	for n := 1; n <= tableMax; n++ {
		for m := 1; m <= tableMax; m++ {
			for seed := range 4 {
				for _, most := range []int{1, 3, 30} {
					by := 100*seed + 10*n + m
					all = append(all, threeRows{bentRow(n, most, by), bentRow(m, most, by+1), bentRow(n+m-1, most, by+2)})
				}
			}
			flat, level := filled(n+m-1, 0), threeRows{filled(n, 0), filled(m, 0), filled(n+m-1, 0)}
			all = append(all, level, threeRows{bentRow(n, 9, n), filled(m, 0), flat}, threeRows{filled(n, 0), bentRow(m, 9, m), flat}, threeRows{filled(n, 0), filled(m, 0), bentRow(n+m-1, 9, n*m)})
		}
	}
	return all
}

// anyRows returns rows for grids of all sizes, mostly not bent.
func anyRows() []threeRows {
	var all []threeRows
	for n := 1; n <= tableMax; n++ {
		for m := 1; m <= tableMax; m++ {
			for seed := range 6 {
				a := anyOne(3, rowMax, []int{2, 333, 600}[seed%3], 100*seed+10*n+m)
				all = append(all, threeRows{a[0][:n], a[1][:m], a[2][:n+m-1]})
			}
		}
	}
	return all
}

// smallGrids returns all grids of some sizes with few values.
func smallGrids() [][][]int {
	return slices.Concat(
		tablesOf(1, 1, -1, 0, 5), tablesOf(1, 3, 0, 1, 2, 4), tablesOf(3, 1, 0, 1, 2, 4), tablesOf(1, 5, 0, 1, 3), tablesOf(5, 1, 0, 1, 3),
		tablesOf(2, 2, -1, 0, 1, 2), tablesOf(2, 3, 0, 1, 2), tablesOf(3, 2, 0, 1, 2), tablesOf(3, 3, 0, 1), tablesOf(2, 4, 0, 1), tablesOf(4, 2, 0, 1),
	)
}

// bentGrids returns the grids that bent rows tell.
func bentGrids() [][][]int {
	var all [][][]int
	for _, r := range bentRows() {
		all = append(all, r.grid())
	}
	return all
}

// middledGrids returns middled grids of all sizes, also such as no bent rows tell.
func middledGrids() [][][]int {
	all := slices.Concat(bentGrids(), smallGrids(), tablesOf(3, 3, 0, 1, 2), limitTables())
	for n := 1; n <= tableMax; n++ {
		for m := 1; m <= tableMax; m++ {
			all = append(all, steady(n, m, entryMax), steady(n, m, -entryMax))
		}
	}
	return slices.DeleteFunc(all, func(t [][]int) bool { return !isMiddled(t) })
}

// nearlyMiddled returns grids in which, at each spot in turn, an entry of a middled one is told otherwise; some of them are middled as well.
func nearlyMiddled() [][][]int {
	var all [][][]int
	for i, t := range bentGrids() {
		if i%3 != 0 {
			continue
		}
		for _, p := range spotsOf(t) {
			all = append(all, withEntry(t, p.i, p.k, p.of(t)+1), withEntry(t, p.i, p.k, p.of(t)-1))
		}
	}
	return all
}

// manyGrids returns grids to be taken one by one, middled ones and others, of all sizes.
func manyGrids() [][][]int {
	all := slices.Concat(middledGrids(), nearlyMiddled(), manyTables(), smallGrids())
	for n := 1; n <= tableMax; n++ {
		for m := 1; m <= tableMax; m++ {
			for seed := range 5 {
				all = append(all, anyOne(n, m, 1, 9*seed+n), anyOne(n, m, 4, 7*seed+m), anyOne(n, m, 60, 5*seed+n*m))
			}
		}
	}
	return all
}

// someGrids returns fewer of them, for all spots to be taken, or in pairs.
func someGrids(each int) [][][]int {
	var some [][][]int
	for i, t := range manyGrids() {
		if i%each == 0 {
			some = append(some, t)
		}
	}
	return some
}

// noSpots returns rows and columns that are no spots of a grid: the row, the column, or both are none.
func noSpots(t [][]int) []spot {
	n, m := len(t), len(t[0])
	var all []spot
	for _, x := range append(outside(), -1, -2, -n, n, n+1, tableMax-1, tableMax, tableMax+1, -tableMax, 1<<32+1, -1<<32+1, -1<<63+1) {
		all = append(all, spot{x, 0}, spot{x, m - 1}, spot{x, m}, spot{x, -1}, spot{x, x}, spot{x, -x})
	}
	for _, x := range append(outside(), -1, -2, -m, m, m+1, tableMax-1, tableMax, tableMax+1, -tableMax, 1<<32+1, -1<<32+1, -1<<63+1) {
		all = append(all, spot{0, x}, spot{n - 1, x}, spot{n, x}, spot{-1, x})
	}
	return slices.DeleteFunc(all, func(p spot) bool { return p.i >= 0 && p.i < n && p.k >= 0 && p.k < m })
}

// sizedGrids returns a grid of each size.
func sizedGrids() [][][]int {
	var all [][][]int
	for n := 1; n <= tableMax; n++ {
		for m := 1; m <= tableMax; m++ {
			all = append(all, anyOne(n, m, 50, 10*n+m))
		}
	}
	return all
}

// TestSampleGrids checks that the samples are grids, and that both ways to say when one is middled say the same.
func TestSampleGrids(t *testing.T) {
	middled, others := 0, 0
	for _, grid := range manyGrids() {
		if !isTable(grid) || isMiddled(grid) != isShifted(grid) {
			t.Fatalf("%v is no grid, or only one way to say it is middled", grid)
		}
		if isMiddled(grid) {
			middled++
		} else {
			others++
		}
	}
	if min(middled, others) < 2000 {
		t.Fatalf("%d grids are middled, and %d are not", middled, others)
	}
}
