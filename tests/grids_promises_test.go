package tests

import (
	"testing"

	"loop.example/bentrows/impl"
)

func TestPromise91(t *testing.T) {
	held, others := 0, 0
	for _, grid := range manyGrids() {
		middled := impl.GridMiddled(grid)
		wantMiddled(t, across(grid), middled)
		if !middled {
			others++
			continue
		}
		held++
		wantCrossed(t, grid, true)
		for _, a := range grid {
			if !impl.RowBent(a) {
				t.Fatalf("GridMiddled holds for %v, but %v is not bent", grid, a)
			}
		}
	}
	if min(held, others) < 2000 {
		t.Fatalf("GridMiddled held %d times, and %d times it did not", held, others)
	}
}

func TestPromise92(t *testing.T) {
	for _, grid := range manyGrids() {
		x, i, k, ok := impl.GridLeast(grid)
		if !ok || grid[i][k] != x {
			t.Fatalf("GridLeast of %v returned %d, %d, %d, %t", grid, x, i, k, ok)
		}
		wantLow(t, grid, spot{i, k}, true)
		for _, p := range spotsOf(grid) {
			if p.of(grid) < x {
				t.Fatalf("GridLeast of %v returned %d", grid, x)
			}
		}
	}
}

func TestPromise93(t *testing.T) {
	low, others := 0, 0
	for _, grid := range middledGrids() {
		wantMiddled(t, grid, true)
		least, _, _, ok := impl.GridLeast(grid)
		for _, p := range spotsOf(grid) {
			if !impl.GridLow(grid, p.i, p.k) {
				others++
				continue
			}
			low++
			wantNumber(t, least, ok, p.of(grid), true, "GridLeast", grid, p)
		}
	}
	if min(low, others) < 3000 {
		t.Fatalf("GridLow held for %d spots of middled grids, and for %d others it did not", low, others)
	}
}

func TestPromise94(t *testing.T) {
	middled, longer, higher := 0, 0, 0
	for _, grid := range someGrids(2) {
		least, _, _, _ := impl.GridLeast(grid)
		isMiddled := impl.GridMiddled(grid)
		for _, p := range spotsOf(grid) {
			i, k, steps, ok := impl.GridDown(grid, p.i, p.k)
			if !ok {
				t.Fatalf("GridDown of %v and %v failed", grid, p)
			}
			wantLow(t, grid, spot{i, k}, true)
			fewest, ok := impl.GridFar(grid, p.i, p.k, i, k)
			if !ok || steps < fewest {
				t.Fatalf("GridDown of %v and %v took %d steps, but GridFar returned %d, %t", grid, p, steps, fewest, ok)
			}
			if steps > fewest {
				longer++
			}
			if isMiddled {
				middled++
				wantNumber(t, least, true, grid[i][k], true, "GridLeast", grid, p)
			} else if grid[i][k] > least {
				higher++
			}
		}
	}
	if middled < 5000 || higher < 1000 || longer < 20 {
		t.Fatalf("GridDown was asked %d times for middled grids, for others it ended %d times at a spot that is not least, and %d times it took more steps than GridFar", middled, higher, longer)
	}
}

func TestPromise95(t *testing.T) {
	succeeded := 0
	rows := bentRows()
	bent := bentOnes(rowsOf(3, 0, 1, 3))
	for _, f := range bent {
		for _, g := range bent {
			for _, h := range bentOnes(rowsOf(5, 0, 1, 3)) {
				if len(h) == len(f)+len(g)-1 {
					rows = append(rows, threeRows{f, g, h})
				}
			}
		}
	}
	for _, r := range rows {
		if !impl.RowBent(r.f) || !impl.RowBent(r.g) || !impl.RowBent(r.h) {
			t.Fatalf("the rows of %v are not bent", r)
		}
		grid, ok := impl.GridOf(len(r.f), len(r.g), r.f, r.g, r.h)
		if !ok {
			continue
		}
		succeeded++
		wantMiddled(t, grid, true)
	}
	if succeeded < 2000 {
		t.Fatalf("GridOf succeeded only %d times", succeeded)
	}
}

// TestPromise95Others takes rows of which one is not bent: a grid that is large enough is mostly not middled then.
func TestPromise95Others(t *testing.T) {
	middled, others := 0, 0
	for _, r := range anyRows() {
		grid, ok := impl.GridOf(len(r.f), len(r.g), r.f, r.g, r.h)
		if !ok || areBent([][]int{r.f, r.g, r.h}) {
			continue
		}
		if impl.GridMiddled(grid) {
			middled++
		} else {
			others++
		}
	}
	if middled < 1 || others < 50 {
		t.Fatalf("of grids of rows that are not bent %d are middled, and %d are not", middled, others)
	}
}

func TestPromise96(t *testing.T) {
	succeeded, middled := 0, 0
	few := append(fewTables(), bentGrids()...)
	for x, a := range few {
		for y, b := range few {
			// Of so many pairs some are enough.
			if len(a) != len(b) || len(a[0]) != len(b[0]) || (x+y)%3 > 0 {
				continue
			}
			sum, ok := impl.GridSum(a, b)
			other, otherOk := impl.GridSum(b, a)
			if ok != otherOk || !sameTable(sum, other) {
				t.Fatalf("GridSum of %v and %v returned %v, %t, and exchanged %v, %t", a, b, sum, ok, other, otherOk)
			}
			if !ok {
				continue
			}
			succeeded++
			if impl.GridMiddled(a) && impl.GridMiddled(b) {
				middled++
				wantMiddled(t, sum, true)
			}
		}
	}
	if succeeded < 2000 || middled < 1000 {
		t.Fatalf("GridSum succeeded %d times, and %d times for middled grids", succeeded, middled)
	}
}

func TestPromise97(t *testing.T) {
	less := 0
	for _, grid := range sizedGrids() {
		for _, p := range spotsOf(grid) {
			for _, q := range spotsOf(grid) {
				steps, ok := impl.GridFar(grid, p.i, p.k, q.i, q.k)
				if !ok || steps < 0 || (steps == 0) != (p == q) {
					t.Fatalf("GridFar of %v, %v and %v returned %d, %t", grid, p, q, steps, ok)
				}
				wantFar(t, grid, q, p, steps)
				both := distance(p.i, q.i) + distance(p.k, q.k)
				if steps > both {
					t.Fatalf("GridFar of %v, %v and %v returned %d", grid, p, q, steps)
				}
				if steps < both {
					less++
				}
			}
		}
	}
	if less < 1000 {
		t.Fatalf("GridFar was less than the sum of both differences only %d times", less)
	}
}
