package tests

import (
	"slices"
	"testing"

	"loop.example/bentrows/impl"
)

func wantMiddled(t *testing.T, grid [][]int, want bool) {
	t.Helper()
	if got := impl.GridMiddled(grid); got != want {
		t.Fatalf("GridMiddled of %v returned %t", grid, got)
	}
}

func wantLeast(t *testing.T, grid [][]int, want int, wantSpot spot) {
	t.Helper()
	x, i, k, ok := impl.GridLeast(grid)
	if x != want || (spot{i, k}) != wantSpot || !ok {
		t.Fatalf("GridLeast of %v returned %d, %d, %d, %t; want %d at %v", grid, x, i, k, ok, want, wantSpot)
	}
}

func wantLow(t *testing.T, grid [][]int, p spot, want bool) {
	t.Helper()
	if got := impl.GridLow(grid, p.i, p.k); got != want {
		t.Fatalf("GridLow of %v and %v returned %t", grid, p, got)
	}
}

func wantDown(t *testing.T, grid [][]int, p spot, want spot, wantSteps int) {
	t.Helper()
	i, k, steps, ok := impl.GridDown(grid, p.i, p.k)
	if (spot{i, k}) != want || steps != wantSteps || !ok {
		t.Fatalf("GridDown of %v and %v returned %d, %d, %d, %t; want %v in %d steps", grid, p, i, k, steps, ok, want, wantSteps)
	}
}

func wantFar(t *testing.T, grid [][]int, p spot, q spot, want int) {
	t.Helper()
	steps, ok := impl.GridFar(grid, p.i, p.k, q.i, q.k)
	wantNumber(t, steps, ok, want, true, "GridFar", grid, p, q)
}

// wantNoSpot checks that all functions which ask about a spot fail.
func wantNoSpot(t *testing.T, grid [][]int, p spot) {
	t.Helper()
	wantLow(t, grid, p, false)
	if i, k, steps, ok := impl.GridDown(grid, p.i, p.k); i != 0 || k != 0 || steps != 0 || ok {
		t.Fatalf("GridDown of %v and %v returned %d, %d, %d, %t; want nothing, false", grid, p, i, k, steps, ok)
	}
	wantNotFar(t, grid, p, p)
	wantNotFar(t, grid, p, spot{0, 0})
	wantNotFar(t, grid, spot{0, 0}, p)
}

func wantNotFar(t *testing.T, grid [][]int, p spot, q spot) {
	t.Helper()
	steps, ok := impl.GridFar(grid, p.i, p.k, q.i, q.k)
	wantNumber(t, steps, ok, 0, false, "GridFar", grid, p, q)
}

func TestGridMiddled(t *testing.T) {
	held, others := 0, 0
	for _, grid := range manyGrids() {
		want := isMiddled(grid)
		wantMiddled(t, grid, want)
		if want {
			held++
		} else {
			others++
		}
	}
	if min(held, others) < 2000 {
		t.Fatalf("%d grids are middled, and %d are not", held, others)
	}
	for _, grid := range [][][]int{
		{{7}}, {{-1000}}, {{1000}}, {{1000, -1000}}, {{-1000}, {1000}},
		// One row and one column that are bent.
		{{4, 1, 0, 1, 4, 9}}, {{4}, {1}, {0}, {1}, {4}, {9}}, {{1000, 0, -1000}}, {{5, 5, 5}}, {{3}, {2}, {2}, {5}},
		{{2, 1}, {1, 0}}, {{0, 0}, {0, 0}}, {{1, 4}, {0, 1}}, {{-1000, 1000}, {1000, -1000}},
		{{0, 1, 3}, {0, 0, 2}}, {{0, 1, 3}, {0, 0, 1}, {1, 0, 0}}, {{0, 1, 2}, {1, 2, 3}}, steady(6, 6, 1000), steady(6, 6, -1000),
		tableOf(6, 6, func(i int, k int) int { return 40 * (i - k) * (i - k) }),
		tableOf(6, 6, func(i int, k int) int { return i*i + k*k }),
		tableOf(6, 6, func(i int, k int) int { return max(i, k) }),
		tableOf(6, 6, func(i int, k int) int { return -min(i, k) }),
		tableOf(6, 6, func(i int, k int) int { return max(0, 3-i) + max(0, k-2) + max(0, k-i) }),
	} {
		wantMiddled(t, grid, true)
	}
	for _, grid := range [][][]int{
		// One row and one column that are not bent: both middle spots are the same, or they are not.
		{{0, 1, 0}}, {{0}, {1}, {0}}, {{0, 2, 3}}, {{0}, {2}, {3}}, {{0, 0, 1, 1}}, {{0}, {0}, {1}, {1}}, {{0, 0, 0, 0, 1, 1}}, {{1, 1, 0, 0, 0, 0}}, {{-1000, 1000, -1000}},
		// Not crossed: the middle spots of the upper right and the lower left one are both others.
		{{0, 0}, {0, 1}}, {{4, 1}, {1, 0}}, {{1, 0}, {0, 0}}, {{1000, -1000}, {-1000, 1000}},
		// Crossed, with bent rows and columns: differences of 1 and 2, down to the right.
		{{0, 1, 2}, {0, 0, 0}}, {{0, 0}, {1, 0}, {2, 0}},
		{{9, 9, 9, 9}, {9, 0, 1, 9}, {9, 0, 0, 0}},
		withEntry(steady(6, 6, 0), 0, 0, 1), withEntry(steady(6, 6, 0), 5, 5, 1), withEntry(steady(6, 6, 0), 0, 5, -1), withEntry(steady(6, 6, 0), 5, 0, -1), withEntry(steady(6, 6, 0), 2, 3, 1), withEntry(steady(6, 6, 0), 2, 3, -1),
		tableOf(6, 6, func(i int, k int) int { return 40 * i * k }),
		tableOf(6, 6, func(i int, k int) int { return min(i, k) }),
		tableOf(6, 6, func(i int, k int) int { return -40 * i * k }),
		tableOf(6, 6, func(i int, k int) int { return max(i-k, k-i) + 3*max(5-i-k, i+k-5) }),
	} {
		wantMiddled(t, grid, false)
	}
	for _, grid := range noTables() {
		wantMiddled(t, grid, false)
	}
}

// TestGridMiddledCorners takes one spot of a steady grid that has less or more, in all sizes.
func TestGridMiddledCorners(t *testing.T) {
	for n := 1; n <= tableMax; n++ {
		for m := 1; m <= tableMax; m++ {
			for i := range n {
				for k := range m {
					// What is more may stand at an end of a single row or column, or at a corner that is no middle spot: no other one lies behind it both ways.
					single := n == 1 && (k == 0 || k == m-1) || m == 1 && (i == 0 || i == n-1)
					corner := i == 0 && k == m-1 || i == n-1 && k == 0
					wantMiddled(t, withEntry(steady(n, m, 3), i, k, 4), single || corner)
					// What is less may stand where all other spots are nearby: else it makes up two spots with others between.
					beside := slices.ContainsFunc(spotsOf(steady(n, m, 3)), func(p spot) bool { return p != spot{i, k} && !isNear(p, spot{i, k}) })
					wantMiddled(t, withEntry(steady(n, m, 3), i, k, 2), !beside)
				}
			}
		}
	}
}

func TestGridLeast(t *testing.T) {
	several := 0
	for _, grid := range manyGrids() {
		all := inOrderOf(grid, spotsOf(grid))
		wantLeast(t, grid, all[0].of(grid), all[0])
		if len(all) > 1 && all[1].of(grid) == all[0].of(grid) {
			several++
		}
	}
	if several < 1000 {
		t.Fatalf("just %d grids have several least entries", several)
	}
	for _, c := range []struct {
		grid [][]int
		x    int
		p    spot
	}{
		{[][]int{{7}}, 7, spot{0, 0}},
		{[][]int{{-1000}}, -1000, spot{0, 0}},
		{[][]int{{1000}}, 1000, spot{0, 0}},
		{[][]int{{3, 1, 2}}, 1, spot{0, 1}},
		{[][]int{{3}, {1}, {2}}, 1, spot{1, 0}},
		{[][]int{{3, 1, 1, 3, 1}}, 1, spot{0, 1}},
		{[][]int{{3}, {1}, {1}, {3}, {1}}, 1, spot{1, 0}},
		// The least row counts first, even if a greater one has it at a lesser column.
		{[][]int{{9, 0}, {0, 9}}, 0, spot{0, 1}},
		{[][]int{{9, 9, 9}, {9, 9, -4}, {-4, 9, 9}}, -4, spot{1, 2}},
		{[][]int{{9, 9, 9}, {9, -4, -4}, {-4, 9, 9}}, -4, spot{1, 1}},
		{[][]int{{9, 9, 9}, {-4, 9, -4}, {-4, 9, 9}}, -4, spot{1, 0}},
		{steady(6, 6, 1000), 1000, spot{0, 0}},
		{steady(6, 6, -1000), -1000, spot{0, 0}},
		{withEntry(steady(6, 6, 1000), 5, 5, 999), 999, spot{5, 5}},
		{withEntry(steady(6, 6, -999), 0, 5, -1000), -1000, spot{0, 5}},
		{withEntry(steady(6, 6, 0), 5, 0, -1), -1, spot{5, 0}},
		{withEntry(withEntry(steady(6, 6, 0), 5, 0, -1), 4, 5, -1), -1, spot{4, 5}},
	} {
		wantLeast(t, c.grid, c.x, c.p)
	}
	for _, grid := range noTables() {
		if x, i, k, ok := impl.GridLeast(grid); x != 0 || i != 0 || k != 0 || ok {
			t.Fatalf("GridLeast of %v returned %d, %d, %d, %t", grid, x, i, k, ok)
		}
	}
}

func TestGridLow(t *testing.T) {
	low, others := 0, 0
	for _, grid := range someGrids(3) {
		for _, p := range spotsOf(grid) {
			want := isLow(grid, p)
			wantLow(t, grid, p, want)
			if want {
				low++
			} else {
				others++
			}
		}
	}
	if min(low, others) < 5000 {
		t.Fatalf("%d spots are low, and %d are not", low, others)
	}
	for _, c := range []struct {
		grid [][]int
		p    spot
		want bool
	}{
		// No nearby spot at all.
		{[][]int{{7}}, spot{0, 0}, true},
		{[][]int{{-1000}}, spot{0, 0}, true},
		{[][]int{{1000}}, spot{0, 0}, true},
		{[][]int{{2, 1}, {1, 0}}, spot{0, 0}, false},
		{[][]int{{2, 1}, {1, 0}}, spot{0, 1}, false},
		{[][]int{{2, 1}, {1, 0}}, spot{1, 0}, false},
		{[][]int{{2, 1}, {1, 0}}, spot{1, 1}, true},
		// Across, from the upper right to the lower left, no spot is nearby.
		{[][]int{{9, 1}, {0, 9}}, spot{0, 1}, true},
		{[][]int{{9, 0}, {1, 9}}, spot{1, 0}, true},
		{[][]int{{1, 9}, {9, 0}}, spot{0, 0}, false},
		{[][]int{{0, 9}, {9, 1}}, spot{1, 1}, false},
		// One row and one column.
		{[][]int{{1, 0, 1, 1, 2}}, spot{0, 0}, false},
		{[][]int{{1, 0, 1, 1, 2}}, spot{0, 1}, true},
		{[][]int{{1, 0, 1, 1, 2}}, spot{0, 2}, false},
		{[][]int{{1, 0, 1, 1, 2}}, spot{0, 3}, true},
		{[][]int{{1, 0, 1, 1, 2}}, spot{0, 4}, false},
		{[][]int{{1}, {0}, {1}, {1}, {2}}, spot{0, 0}, false},
		{[][]int{{1}, {0}, {1}, {1}, {2}}, spot{1, 0}, true},
		{[][]int{{1}, {0}, {1}, {1}, {2}}, spot{2, 0}, false},
		{[][]int{{1}, {0}, {1}, {1}, {2}}, spot{3, 0}, true},
		{[][]int{{1}, {0}, {1}, {1}, {2}}, spot{4, 0}, false},
		// Two rows or columns away is not nearby.
		{[][]int{{1, 5, 0}}, spot{0, 0}, true},
		{[][]int{{1}, {5}, {0}}, spot{0, 0}, true},
		{[][]int{{0, 9, 0}, {9, 1, 9}, {9, 0, 9}}, spot{1, 1}, false},
		{[][]int{{9, 9, 0}, {9, 1, 9}, {0, 9, 9}}, spot{1, 1}, true},
		// None but equal entries, at the corners, at the edges, and inside.
		{steady(6, 6, 0), spot{0, 0}, true},
		{steady(6, 6, 0), spot{0, 5}, true},
		{steady(6, 6, 0), spot{5, 0}, true},
		{steady(6, 6, 0), spot{5, 5}, true},
		{steady(6, 6, 0), spot{0, 3}, true},
		{steady(6, 6, 0), spot{3, 5}, true},
		{steady(6, 6, 0), spot{2, 2}, true},
	} {
		wantLow(t, c.grid, c.p, c.want)
	}
}

// TestGridLowNear takes a grid with one lesser entry: just the spots beside it, those of which it is nearby, are not low.
func TestGridLowNear(t *testing.T) {
	for n := 1; n <= tableMax; n++ {
		for m := 1; m <= tableMax; m++ {
			for _, p := range spotsOf(steady(n, m, 0)) {
				for _, q := range spotsOf(steady(n, m, 0)) {
					grid := withEntry(steady(n, m, 0), p.i, p.k, -1)
					wantLow(t, grid, q, !isNear(q, p))
					wantLow(t, withEntry(steady(n, m, 0), p.i, p.k, 1), q, p != q || n*m == 1)
				}
			}
		}
	}
}

// TestGridSpotsFail takes rows and columns that are no spots, and lists that are no grids.
func TestGridSpotsFail(t *testing.T) {
	for _, grid := range sizedGrids() {
		for _, p := range noSpots(grid) {
			wantNoSpot(t, grid, p)
			last := spot{len(grid) - 1, len(grid[0]) - 1}
			wantNotFar(t, grid, p, last)
			wantNotFar(t, grid, last, p)
		}
	}
	for _, grid := range noTables() {
		for _, p := range []spot{{0, 0}, {0, 1}, {1, 0}, {1, 1}, {5, 5}, {len(grid) - 1, 0}, {0, 6}, {6, 0}, {6, 6}, {-1, -1}, {1 << 62, 0}, {0, -1 << 63}} {
			wantNoSpot(t, grid, p)
		}
	}
}

func TestGridDown(t *testing.T) {
	ways := map[int]int{}
	several := 0
	for _, grid := range someGrids(3) {
		for _, p := range spotsOf(grid) {
			way := downFrom(grid, p)
			wantDown(t, grid, p, way[len(way)-1], len(way)-1)
			ways[min(len(way)-1, 4)]++
			near := nearOf(grid, p)
			if len(way) > 1 && len(near) > 1 && near[0].of(grid) == near[1].of(grid) {
				several++
			}
		}
	}
	if min(ways[0], ways[1], ways[2], ways[3]) < 500 || ways[4] < 100 || several < 2000 {
		t.Fatalf("there are so many ways of each number of steps: %v, and %d with equal entries to go to", ways, several)
	}
	for _, c := range []struct {
		grid  [][]int
		p     spot
		want  spot
		steps int
	}{
		{[][]int{{2, 1}, {1, 0}}, spot{0, 0}, spot{1, 1}, 1},
		{[][]int{{2, 1}, {1, 0}}, spot{0, 1}, spot{1, 1}, 1},
		{[][]int{{2, 1}, {1, 0}}, spot{1, 1}, spot{1, 1}, 0},
		{[][]int{{7}}, spot{0, 0}, spot{0, 0}, 0},
		{steady(6, 6, -1000), spot{3, 2}, spot{3, 2}, 0},
		{steady(6, 6, 1000), spot{5, 5}, spot{5, 5}, 0},
		{[][]int{{5, 4, 3, 2, 1, 0}}, spot{0, 0}, spot{0, 5}, 5},
		{[][]int{{5, 4, 3, 2, 1, 0}}, spot{0, 3}, spot{0, 5}, 2},
		{[][]int{{0}, {1}, {2}, {3}, {4}, {5}}, spot{5, 0}, spot{0, 0}, 5},
		{[][]int{{0, 1, 2, 2, 1, 0}}, spot{0, 2}, spot{0, 0}, 2},
		{[][]int{{0, 1, 2, 2, 1, 0}}, spot{0, 3}, spot{0, 5}, 2},
		// Equal entries: the least row, and then the least column.
		{[][]int{{0, 1, 0}}, spot{0, 1}, spot{0, 0}, 1},
		{[][]int{{0}, {1}, {0}}, spot{1, 0}, spot{0, 0}, 1},
		{[][]int{{0, 0, 0}, {0, 1, 0}, {0, 0, 0}}, spot{1, 1}, spot{0, 0}, 1},
		{[][]int{{1, 0, 0}, {0, 1, 0}, {0, 0, 0}}, spot{1, 1}, spot{0, 1}, 1},
		{[][]int{{1, 1, 0}, {0, 1, 0}, {0, 0, 0}}, spot{1, 1}, spot{1, 0}, 1},
		{[][]int{{1, 1, 0}, {1, 1, 0}, {0, 0, 0}}, spot{1, 1}, spot{1, 2}, 1},
		{[][]int{{1, 1, 0}, {1, 1, 1}, {0, 0, 0}}, spot{1, 1}, spot{2, 1}, 1},
		{[][]int{{1, 1, 0}, {1, 1, 1}, {0, 1, 0}}, spot{1, 1}, spot{2, 2}, 1},
		{[][]int{{1, 1, 0}, {1, 1, 1}, {0, 1, 1}}, spot{1, 1}, spot{1, 1}, 0},
		// Equal ones at the second step, too.
		{[][]int{{3, 3, 0}, {3, 4, 2}, {9, 2, 2}}, spot{1, 1}, spot{0, 2}, 2},
		{[][]int{{9, 9, 1, 9}, {9, 5, 3, 1}, {9, 3, 9, 1}}, spot{1, 1}, spot{0, 2}, 2},
		{[][]int{{9, 2, 0, 9}, {2, 9, 2, 0}, {9, 0, 9, 9}}, spot{1, 2}, spot{0, 2}, 1},
		{[][]int{{0, 5, 0}, {2, 3, 2}, {0, 5, 0}}, spot{1, 1}, spot{0, 0}, 1},
		{[][]int{{0, 3, 5}, {1, 2, 3}, {0, 1, 0}}, spot{0, 2}, spot{0, 0}, 2},
		// The least one, not the first one that is less, and not the one on the shortest way.
		{[][]int{{9, 4, 0}, {3, 5, 9}, {0, 9, 9}}, spot{1, 1}, spot{2, 0}, 2},
		{[][]int{{4, 3, 9}, {9, 5, 2}, {9, 9, 1}}, spot{1, 1}, spot{2, 2}, 1},
		{[][]int{{9, 9, 9, 8}, {0, 9, 9, 7}, {1, 9, 9, 6}, {2, 3, 4, 5}}, spot{0, 2}, spot{1, 0}, 7},
		{[][]int{{0, 9, 9, 1}, {9, 9, 9, 2}, {6, 5, 4, 3}}, spot{2, 0}, spot{0, 3}, 5},
		// Where the grid is not middled, one may end at a spot that is not least.
		{[][]int{{1, 2, 0}}, spot{0, 0}, spot{0, 0}, 0},
		{[][]int{{1, 2, 0}}, spot{0, 1}, spot{0, 2}, 1},
		{[][]int{{3, 2, 9, 0}}, spot{0, 0}, spot{0, 1}, 1},
		{[][]int{{9, 0}, {1, 9}}, spot{1, 0}, spot{1, 0}, 0},
		{[][]int{{1, 1, 0}, {1, 5, 1}, {0, 1, 1}}, spot{1, 1}, spot{0, 0}, 1},
		{tableOf(6, 6, func(i int, k int) int { return 40 * (i - k) * (i - k) }), spot{0, 5}, spot{0, 0}, 5},
		{tableOf(6, 6, func(i int, k int) int { return 40 * (i - k) * (i - k) }), spot{5, 0}, spot{0, 0}, 5},
		{tableOf(6, 6, func(i int, k int) int { return -100 * (i + k) }), spot{0, 0}, spot{5, 5}, 5},
		{tableOf(6, 6, func(i int, k int) int { return 100 * (i + k) }), spot{5, 5}, spot{0, 0}, 5},
	} {
		wantDown(t, c.grid, c.p, c.want, c.steps)
	}
}

// TestGridDownLong goes down a way that winds through a grid of high entries, and all of it back.
func TestGridDownLong(t *testing.T) {
	way := []spot{
		{0, 0}, {0, 1}, {0, 2}, {0, 3}, {0, 4}, {1, 5},
		{2, 5}, {2, 4}, {2, 3}, {2, 2}, {2, 1}, {2, 0}, {3, 0},
		{4, 1}, {4, 2}, {4, 3}, {4, 4}, {4, 5},
	}
	last := len(way) - 1
	there, back := steady(6, 6, 1000), steady(6, 6, 1000)
	for i, p := range way {
		there[p.i][p.k], back[p.i][p.k] = -i, i
	}
	for i, p := range way {
		wantDown(t, there, p, way[last], last-i)
		wantDown(t, back, p, way[0], i)
	}
}

func TestGridOf(t *testing.T) {
	for _, r := range slices.Concat(bentRows(), anyRows()) {
		got, ok := impl.GridOf(len(r.f), len(r.g), r.f, r.g, r.h)
		wantTable(t, got, ok, r.grid(), "GridOf", r)
	}
	for _, c := range []struct {
		rows threeRows
		want [][]int
	}{
		{threeRows{[]int{1}, []int{20}, []int{300}}, [][]int{{321}}},
		{threeRows{[]int{0, 0}, []int{0, 0}, []int{0, 1, 4}}, [][]int{{1, 4}, {0, 1}}},
		{threeRows{[]int{10, 20}, []int{100, 200}, []int{0, 1, 4}}, [][]int{{111, 214}, {120, 221}}},
		{threeRows{[]int{5}, []int{1, 2, 3}, []int{10, 20, 30}}, [][]int{{16, 27, 38}}},
		{threeRows{[]int{1, 2, 3}, []int{5}, []int{10, 20, 30}}, [][]int{{36}, {27}, {18}}},
		{threeRows{[]int{0, 100}, []int{0, 10, 20}, []int{1, 2, 3, 4}}, [][]int{{2, 13, 24}, {101, 112, 123}}},
		// Rows that are not bent tell a grid as well.
		{threeRows{[]int{0, 9, 0}, []int{0}, []int{0, 9, 0}}, [][]int{{0}, {18}, {0}}},
		{threeRows{[]int{0, 0}, []int{0, 0}, []int{0, 1, 0}}, [][]int{{1, 0}, {0, 1}}},
		// Sums at the limits, whose parts would be beyond.
		{threeRows{[]int{1000}, []int{1000}, []int{-1000}}, [][]int{{1000}}},
		{threeRows{[]int{-1000}, []int{1000}, []int{-1000}}, [][]int{{-1000}}},
		{threeRows{[]int{-1000}, []int{-1000}, []int{1000}}, [][]int{{-1000}}},
		{threeRows{[]int{334}, []int{333}, []int{333}}, [][]int{{1000}}},
		{threeRows{filled(6, 1000), filled(6, 1000), filled(11, -1000)}, steady(6, 6, 1000)},
		{threeRows{filled(6, -1), counted(6, 0, -100), append(filled(10, 0), -499)}, withEntry(tableOf(6, 6, func(i int, k int) int { return -1 - 100*k }), 0, 5, -1000)},
		{threeRows{counted(6, 0, 1), counted(6, 0, 10), counted(11, 0, 60)}, tableOf(6, 6, func(i int, k int) int { return 300 - 59*i + 70*k })},
		{threeRows{filled(1, 7), counted(6, 0, 1), counted(6, 0, 10)}, [][]int{{7, 18, 29, 40, 51, 62}}},
		{threeRows{counted(6, 0, 1), filled(1, 7), counted(6, 0, 10)}, [][]int{{57}, {48}, {39}, {30}, {21}, {12}}},
	} {
		if got, ok := impl.GridOf(len(c.rows.f), len(c.rows.g), c.rows.f, c.rows.g, c.rows.h); !ok || !sameTable(got, c.want) {
			t.Errorf("GridOf of %v returned %v, %t; want %v", c.rows, got, ok, c.want)
		}
	}
}

func wantNoGrid(t *testing.T, n int, m int, r threeRows) {
	t.Helper()
	got, ok := impl.GridOf(n, m, r.f, r.g, r.h)
	wantNoTable(t, got, ok, "GridOf", n, m, r)
}

// TestGridOfSizes takes numbers of rows and columns, and rows of as many entries or of others.
func TestGridOfSizes(t *testing.T) {
	succeeded := 0
	for n := -1; n <= 8; n++ {
		for m := -1; m <= 8; m++ {
			for more := range 27 {
				lengths := []int{n + more%3 - 1, m + more/3%3 - 1, n + m - 1 + more/9 - 1}
				if slices.Min(lengths) < 0 {
					continue
				}
				r := threeRows{filled(lengths[0], 1), filled(lengths[1], 1), filled(lengths[2], 1)}
				if n < 1 || m < 1 || n > tableMax || m > tableMax || more != 13 {
					wantNoGrid(t, n, m, r)
					continue
				}
				succeeded++
				got, ok := impl.GridOf(n, m, r.f, r.g, r.h)
				wantTable(t, got, ok, steady(n, m, 3), "GridOf", n, m, r)
			}
		}
	}
	if succeeded != tableMax*tableMax {
		t.Fatalf("GridOf succeeded %d times", succeeded)
	}
	for _, x := range append(outside(), 0, -1, tableMax+1, -1<<62, 1<<62+1) {
		for _, y := range []int{x, -x, 1 - x, 2 - x, 4 - x, 0, 1, 2, 6} {
			for _, a := range [][]int{nil, {0}, {0, 1}, {0, 1, 4}} {
				wantNoGrid(t, x, y, threeRows{a, a, a})
				wantNoGrid(t, y, x, threeRows{a, a, a})
				wantNoGrid(t, x, y, threeRows{[]int{0}, []int{0}, a})
				wantNoGrid(t, y, x, threeRows{a, []int{0}, a})
			}
		}
	}
}

// TestGridOfFails takes lists that are no rows, and sums that are no entries.
func TestGridOfFails(t *testing.T) {
	for n := 1; n <= tableMax; n++ {
		for m := 1; m <= tableMax; m++ {
			f, g, h := filled(n, 0), filled(m, 0), filled(n+m-1, 0)
			for _, a := range noRows() {
				wantNoGrid(t, n, m, threeRows{a, g, h})
				wantNoGrid(t, n, m, threeRows{f, a, h})
				wantNoGrid(t, n, m, threeRows{f, g, a})
			}
			for _, x := range outside() {
				for i := range n {
					wantNoGrid(t, n, m, threeRows{withEntry([][]int{f}, 0, i, x)[0], g, h})
				}
				for k := range m {
					wantNoGrid(t, n, m, threeRows{f, withEntry([][]int{g}, 0, k, x)[0], h})
				}
				for at := range n + m - 1 {
					wantNoGrid(t, n, m, threeRows{f, g, withEntry([][]int{h}, 0, at, x)[0]})
				}
			}
			// Sums that would be entries do not help.
			for _, x := range []int{1001, 1002, 1500, 2000, 3000, -1001, -1002, -1500, -2000, -3000} {
				back := -x / 3
				for i := range n {
					wantNoGrid(t, n, m, threeRows{withEntry([][]int{f}, 0, i, x)[0], filled(m, back), filled(n+m-1, back)})
				}
				for k := range m {
					wantNoGrid(t, n, m, threeRows{filled(n, back), withEntry([][]int{g}, 0, k, x)[0], filled(n+m-1, back)})
				}
				for at := range n + m - 1 {
					wantNoGrid(t, n, m, threeRows{filled(n, back), filled(m, back), withEntry([][]int{h}, 0, at, x)[0]})
				}
			}
			// Each spot in turn is the only one with a sum that is no entry.
			for _, p := range spotsOf(steady(n, m, 0)) {
				for _, sign := range []int{1, -1} {
					rows, columns := withEntry([][]int{f}, 0, p.i, 500*sign)[0], withEntry([][]int{g}, 0, p.k, 500*sign)[0]
					wantNoGrid(t, n, m, threeRows{rows, columns, filled(n+m-1, sign)})
					got, ok := impl.GridOf(n, m, rows, columns, h)
					wantTable(t, got, ok, threeRows{rows, columns, h}.grid(), "GridOf", rows, columns, h)
				}
			}
		}
	}
	for _, r := range []threeRows{
		{[]int{1000}, []int{1}, []int{0}}, {[]int{1000}, []int{0}, []int{1}}, {[]int{0}, []int{1000}, []int{1}}, {[]int{-1000}, []int{-1}, []int{0}}, {[]int{-1000}, []int{0}, []int{-1}}, {[]int{0}, []int{-1}, []int{-1000}},
		{[]int{334}, []int{334}, []int{333}}, {[]int{-334}, []int{-334}, []int{-333}}, {[]int{1000}, []int{1000}, []int{1000}}, {[]int{-1000}, []int{-1000}, []int{-1000}}, {[]int{1000}, []int{1000}, []int{-999}},
		{filled(6, 1000), filled(6, 0), filled(11, 1)}, {filled(6, -500), filled(6, -400), filled(11, -101)},
	} {
		wantNoGrid(t, len(r.f), len(r.g), r)
	}
}

func TestGridSum(t *testing.T) {
	succeeded, beyond := 0, 0
	few := append(fewTables(), bentGrids()[:200]...)
	for _, a := range few {
		for _, b := range few {
			got, ok := impl.GridSum(a, b)
			if len(a) != len(b) || len(a[0]) != len(b[0]) {
				wantNoTable(t, got, ok, "GridSum", a, b)
				continue
			}
			want := tableOf(len(a), len(a[0]), func(i int, k int) int { return a[i][k] + b[i][k] })
			wantTable(t, got, ok, want, "GridSum", a, b)
			if ok {
				succeeded++
			} else {
				beyond++
			}
		}
	}
	if succeeded < 1000 || beyond < 50 {
		t.Fatalf("GridSum succeeded %d times, and %d times a sum was no entry", succeeded, beyond)
	}
	for _, c := range []struct {
		a, b, want [][]int
	}{
		{[][]int{{7}}, [][]int{{-9}}, [][]int{{-2}}},
		{[][]int{{1, 2, 3}}, [][]int{{10, 20, 30}}, [][]int{{11, 22, 33}}},
		{[][]int{{1}, {2}, {3}}, [][]int{{10}, {20}, {30}}, [][]int{{11}, {22}, {33}}},
		{[][]int{{1, 2}, {3, 4}}, [][]int{{10, 20}, {30, 40}}, [][]int{{11, 22}, {33, 44}}},
		{[][]int{{1000}}, [][]int{{-1000}}, [][]int{{0}}},
		{[][]int{{1000}}, [][]int{{0}}, [][]int{{1000}}},
		{[][]int{{-600}}, [][]int{{-400}}, [][]int{{-1000}}},
		{steady(6, 6, 500), steady(6, 6, 500), steady(6, 6, 1000)},
		{steady(6, 6, -1000), steady(6, 6, 0), steady(6, 6, -1000)},
	} {
		got, ok := impl.GridSum(c.a, c.b)
		wantTable(t, got, ok, c.want, "GridSum", c.a, c.b)
	}
}

func TestGridSumFails(t *testing.T) {
	wantNot := func(a [][]int, b [][]int) {
		t.Helper()
		got, ok := impl.GridSum(a, b)
		wantNoTable(t, got, ok, "GridSum", a, b)
	}
	for _, a := range sizedGrids() {
		for _, b := range sizedGrids() {
			if len(a) != len(b) || len(a[0]) != len(b[0]) {
				wantNot(a, b)
			}
		}
		n, m := len(a), len(a[0])
		for _, p := range spotsOf(a) {
			wantNot(withEntry(steady(n, m, 0), p.i, p.k, 1000), steady(n, m, 1))
			wantNot(withEntry(steady(n, m, 0), p.i, p.k, -501), withEntry(steady(n, m, 0), p.i, p.k, -500))
			for _, x := range outside() {
				wantNot(withEntry(steady(n, m, 0), p.i, p.k, x), steady(n, m, 0))
				wantNot(steady(n, m, 0), withEntry(steady(n, m, 0), p.i, p.k, x))
				wantNot(withEntry(steady(n, m, 0), p.i, p.k, x), withEntry(steady(n, m, 0), p.i, p.k, -x))
			}
			// A sum that would be an entry does not help.
			for _, x := range []int{1001, 1500, 2000, -1001, -1500, -2000} {
				wantNot(withEntry(steady(n, m, 0), p.i, p.k, x), withEntry(steady(n, m, 0), p.i, p.k, -x/2))
				wantNot(withEntry(steady(n, m, 0), p.i, p.k, -x/2), withEntry(steady(n, m, 0), p.i, p.k, x))
			}
		}
	}
	for _, a := range noTables() {
		wantNot(a, a)
		for _, b := range [][][]int{nil, {{}}, {{0}}, steady(1, 2, 0), steady(2, 1, 0), steady(2, 2, 0), steady(3, 3, 0), steady(6, 6, 0), steady(7, 7, 0)} {
			wantNot(a, b)
			wantNot(b, a)
		}
		if len(a) > 0 {
			wantNot(a, steady(len(a), len(a[0]), 0))
			wantNot(steady(len(a), len(a[0]), 0), a)
		}
	}
}

func TestGridFar(t *testing.T) {
	same, opposite, straight := 0, 0, 0
	for _, grid := range sizedGrids() {
		for _, p := range spotsOf(grid) {
			for q, want := range farsFrom(grid, p) {
				wantFar(t, grid, p, q, want)
				switch product := (q.i - p.i) * (q.k - p.k); {
				case product > 0:
					same++
				case product < 0:
					opposite++
				default:
					straight++
				}
			}
		}
	}
	if min(same, opposite, straight) < 1000 {
		t.Fatalf("both differences have one sign %d times, not so %d times, and one is 0 %d times", same, opposite, straight)
	}
	for _, c := range []struct {
		grid [][]int
		p, q spot
		want int
	}{
		{[][]int{{7}}, spot{0, 0}, spot{0, 0}, 0},
		{[][]int{{2, 1}, {1, 0}}, spot{0, 1}, spot{1, 0}, 2},
		{[][]int{{2, 1}, {1, 0}}, spot{1, 0}, spot{0, 1}, 2},
		{[][]int{{2, 1}, {1, 0}}, spot{0, 0}, spot{1, 1}, 1},
		{[][]int{{2, 1}, {1, 0}}, spot{1, 1}, spot{0, 0}, 1},
		{[][]int{{0, 9, 0, 9, 0}}, spot{0, 0}, spot{0, 4}, 4},
		{[][]int{{0}, {9}, {0}, {9}, {0}}, spot{4, 0}, spot{1, 0}, 3},
		{steady(6, 6, 0), spot{0, 0}, spot{5, 5}, 5},
		{steady(6, 6, 0), spot{5, 5}, spot{0, 0}, 5},
		{steady(6, 6, 0), spot{0, 5}, spot{5, 0}, 10},
		{steady(6, 6, 0), spot{5, 0}, spot{0, 5}, 10},
		{steady(6, 6, 0), spot{1, 1}, spot{3, 5}, 4},
		{steady(6, 6, 0), spot{5, 3}, spot{1, 1}, 4},
		{steady(6, 6, 0), spot{1, 4}, spot{3, 1}, 5},
		{steady(6, 6, 0), spot{3, 1}, spot{1, 4}, 5},
		{steady(6, 6, 0), spot{2, 3}, spot{2, 3}, 0},
		{steady(6, 6, 0), spot{2, 3}, spot{2, 0}, 3},
		{steady(6, 6, 0), spot{0, 3}, spot{4, 3}, 4},
	} {
		wantFar(t, c.grid, c.p, c.q, c.want)
	}
}

// TestGridFarEntries takes the same spots of grids with other entries: they change nothing.
func TestGridFarEntries(t *testing.T) {
	for _, grid := range someGrids(9) {
		spots := spotsOf(grid)
		for i, p := range spots {
			q := spots[(7*i+3)%len(spots)]
			wantFar(t, grid, p, q, farsFrom(steady(len(grid), len(grid[0]), 0), p)[q])
		}
	}
}
