package tests

import (
	"math"
	"slices"
	"testing"

	"loop.example/bentrows/impl"
)

// pairwise returns what join makes of both lists place by place, or nil if they are not alike.
func pairwise(a []int, b []int, join func(x int, y int) int) []int {
	if len(a) != len(b) {
		return nil
	}
	list := make([]int, len(a))
	for i := range a {
		list[i] = join(a[i], b[i])
	}
	return list
}

func TestRowIn(t *testing.T) {
	for _, a := range manyRows() {
		if !impl.RowIn(a) {
			t.Errorf("RowIn does not hold for %v", a)
		}
	}
	for _, a := range noRows() {
		if impl.RowIn(a) {
			t.Errorf("RowIn holds for %v", a)
		}
	}
	if impl.RowMax != rowMax || impl.EntryMax != entryMax {
		t.Errorf("the limits are %d and %d", impl.RowMax, impl.EntryMax)
	}
}

func TestRowSlopes(t *testing.T) {
	for _, c := range []struct{ row, slopes []int }{
		{[]int{5}, nil},
		{[]int{0, 1, 4}, []int{1, 3}},
		{[]int{4, 1, 0}, []int{-3, -1}},
		{[]int{-1000, 1000}, []int{2000}},
		{[]int{1000, -1000, 1000}, []int{-2000, 2000}},
		{counted(rowMax, -10, 90), filled(rowMax-1, 90)},
	} {
		if got, ok := impl.RowSlopes(c.row); !ok || !slices.Equal(got, c.slopes) {
			t.Errorf("RowSlopes of %v returned %v, %t", c.row, got, ok)
		}
	}
	for _, a := range noRows() {
		got, ok := impl.RowSlopes(a)
		wantNone(t, got, ok, "RowSlopes", a)
	}
}

func TestRowFrom(t *testing.T) {
	for _, c := range []struct {
		first        int
		slopes, want []int
	}{
		{2, []int{1, -1}, []int{2, 3, 2}},
		{7, nil, []int{7}},
		{-7, []int{}, []int{-7}},
		{1000, nil, []int{1000}},
		{-1000, nil, []int{-1000}},
		{-1000, []int{2000, -2000}, []int{-1000, 1000, -1000}},
		{1000, []int{-2000}, []int{1000, -1000}},
		{-1000, filled(rowMax-1, 181), counted(rowMax, -1000, 181)},
		{0, filled(rowMax-1, 0), filled(rowMax, 0)},
	} {
		got, ok := impl.RowFrom(c.first, c.slopes)
		wantList(t, got, ok, c.want, "RowFrom", c.first, c.slopes)
	}
}

func TestRowFromFails(t *testing.T) {
	for _, x := range outside() {
		got, ok := impl.RowFrom(x, nil)
		wantNone(t, got, ok, "RowFrom", x, nil)
		got, ok = impl.RowFrom(x, []int{-x})
		wantNone(t, got, ok, "RowFrom", x, []int{-x})
	}
	for _, c := range []struct {
		first  int
		slopes []int
	}{
		{0, filled(rowMax, 0)},
		{0, filled(100, 0)},
		{0, []int{1001}},
		{0, []int{-1001}},
		{0, []int{1001, -1}},
		{0, []int{-1001, 1}},
		{1, []int{1, 999, -1}},
		{-1, []int{-1, -999, 5}},
		{-1000, []int{2001}},
		{1000, []int{-2001}},
		{1000, []int{1}},
		{-1000, []int{-1}},
		{1, []int{math.MaxInt}},
		{-1, []int{math.MinInt}},
		{1000, []int{math.MaxInt - 999}},
		{0, []int{math.MaxInt, math.MaxInt, 2}},
		{0, []int{math.MinInt, math.MinInt}},
		{0, []int{math.MinInt, math.MinInt, 5}},
		{0, []int{1, math.MinInt, math.MinInt}},
		{0, []int{1 << 32, -1 << 32}},
		{0, []int{1 << 31, 1 << 31}},
	} {
		got, ok := impl.RowFrom(c.first, c.slopes)
		wantNone(t, got, ok, "RowFrom", c.first, c.slopes)
	}
}

func TestRowBent(t *testing.T) {
	for _, a := range manyRows() {
		if impl.RowBent(a) != isBent(a) {
			t.Errorf("RowBent of %v is %t", a, impl.RowBent(a))
		}
	}
	for _, a := range [][]int{{5}, {1000, -1000}, {-1000, 1000}, {1000, -1000, 1000}, {1, 1, 1}, {3, 2, 1}, {9, 4, 1, 0}} {
		if !impl.RowBent(a) {
			t.Errorf("RowBent does not hold for %v", a)
		}
	}
	for _, a := range [][]int{{0, 1, 0}, {0, 1, 1}, {0, 2, 3}, {0, 0, 1, 1}, {-1000, 1000, -1000}, append(filled(rowMax-1, 0), -1)} {
		if impl.RowBent(a) {
			t.Errorf("RowBent holds for %v", a)
		}
	}
	for _, a := range noRows() {
		if impl.RowBent(a) {
			t.Errorf("RowBent holds for %v, which is no row", a)
		}
	}
}

func TestRowSum(t *testing.T) {
	for _, a := range fewRows() {
		for _, b := range fewRows() {
			got, ok := impl.RowSum(a, b)
			wantList(t, got, ok, pairwise(a, b, func(x int, y int) int { return x + y }), "RowSum", a, b)
		}
	}
	got, ok := impl.RowSum([]int{1000, -1000, 3}, []int{-2000 + 1000, 1000, 997})
	wantList(t, got, ok, []int{0, 0, 1000}, "RowSum")
	got, ok = impl.RowSum([]int{1000}, []int{1})
	wantNone(t, got, ok, "RowSum")
	got, ok = impl.RowSum([]int{0, -1000}, []int{0, -1})
	wantNone(t, got, ok, "RowSum")
}

func TestRowHigh(t *testing.T) {
	for _, a := range fewRows() {
		for _, b := range fewRows() {
			got, ok := impl.RowHigh(a, b)
			wantList(t, got, ok, pairwise(a, b, func(x int, y int) int { return max(x, y) }), "RowHigh", a, b)
		}
	}
	got, ok := impl.RowHigh([]int{-1000, 1000, 3}, []int{-999, -1000, 2})
	wantList(t, got, ok, []int{-999, 1000, 3}, "RowHigh")
}

func TestRowLow(t *testing.T) {
	for _, a := range fewRows() {
		for _, b := range fewRows() {
			got, ok := impl.RowLow(a, b)
			wantList(t, got, ok, pairwise(a, b, func(x int, y int) int { return min(x, y) }), "RowLow", a, b)
		}
	}
	got, ok := impl.RowLow([]int{-1000, 1000, 3}, []int{-999, -1000, 2})
	wantList(t, got, ok, []int{-1000, -1000, 2}, "RowLow")
}

// TestPairsFail takes lists that are no rows, or not alike, on either side.
func TestPairsFail(t *testing.T) {
	bad := noRows()
	for _, a := range bad {
		for _, b := range append(bad, filled(max(len(a), 1), 0), filled(max(len(a), 1), -1000), []int{1}, filled(rowMax, 7)) {
			wantNoPair(t, a, b)
			wantNoPair(t, b, a)
		}
	}
	for n := 1; n <= rowMax; n++ {
		for m := 1; m <= rowMax; m++ {
			if n != m {
				wantNoPair(t, filled(n, 0), filled(m, 1))
				wantNoPair(t, filled(n, 1), filled(m, 1))
			}
		}
	}
}

func wantNoPair(t *testing.T, a []int, b []int) {
	t.Helper()
	got, ok := impl.RowSum(a, b)
	wantNone(t, got, ok, "RowSum", a, b)
	got, ok = impl.RowHigh(a, b)
	wantNone(t, got, ok, "RowHigh", a, b)
	got, ok = impl.RowLow(a, b)
	wantNone(t, got, ok, "RowLow", a, b)
	if impl.RowBelow(a, b) {
		t.Fatalf("RowBelow holds for %v and %v", a, b)
	}
}

func TestRowBelow(t *testing.T) {
	for _, a := range fewRows() {
		for _, b := range fewRows() {
			want := len(a) == len(b)
			for i := 0; want && i < len(a); i++ {
				want = a[i] <= b[i]
			}
			if impl.RowBelow(a, b) != want {
				t.Fatalf("RowBelow of %v and %v is not %t", a, b, want)
			}
		}
	}
	for i := range rowMax {
		raised := filled(rowMax, 0)
		raised[i] = 1
		if impl.RowBelow(raised, filled(rowMax, 0)) || !impl.RowBelow(filled(rowMax, 0), raised) {
			t.Errorf("RowBelow misses the place %d", i)
		}
	}
	if !impl.RowBelow(filled(rowMax, -1000), filled(rowMax, 1000)) || !impl.RowBelow([]int{1000}, []int{1000}) {
		t.Errorf("RowBelow does not hold at the limits")
	}
}

func TestRowTimes(t *testing.T) {
	for _, a := range manyRows() {
		for _, k := range []int{-1000, -999, -2, -1, 0, 1, 2, 10, 999, 1000} {
			want := make([]int, len(a))
			for i, x := range a {
				want[i] = x * k
			}
			got, ok := impl.RowTimes(a, k)
			wantList(t, got, ok, want, "RowTimes", a, k)
		}
		for _, k := range outside() {
			got, ok := impl.RowTimes(a, k)
			wantNone(t, got, ok, "RowTimes", a, k)
		}
	}
	for _, a := range noRows() {
		for _, k := range []int{-1, 0, 1, math.MaxInt} {
			got, ok := impl.RowTimes(a, k)
			wantNone(t, got, ok, "RowTimes", a, k)
		}
	}
}

func TestRowBack(t *testing.T) {
	for _, a := range manyRows() {
		want := slices.Clone(a)
		slices.Reverse(want)
		got, ok := impl.RowBack(a)
		wantList(t, got, ok, want, "RowBack", a)
	}
	for _, a := range noRows() {
		got, ok := impl.RowBack(a)
		wantNone(t, got, ok, "RowBack", a)
	}
}

func TestRowTilt(t *testing.T) {
	for _, a := range manyRows() {
		for _, first := range []int{-1000, -1, 0, 2, 999, 1000} {
			for _, slope := range []int{-1000, -90, -1, 0, 1, 181, 1000} {
				want := make([]int, len(a))
				for i, x := range a {
					want[i] = x + first + i*slope
				}
				got, ok := impl.RowTilt(a, first, slope)
				wantList(t, got, ok, want, "RowTilt", a, first, slope)
			}
		}
	}
	got, ok := impl.RowTilt(filled(rowMax, 0), -1000, 181)
	wantList(t, got, ok, counted(rowMax, -1000, 181), "RowTilt")
	got, ok = impl.RowTilt([]int{1000, 1000}, -1000, -1000)
	wantList(t, got, ok, []int{0, -1000}, "RowTilt")
	got, ok = impl.RowTilt(filled(rowMax, 0), -1000, 182)
	wantNone(t, got, ok, "RowTilt")
}

func TestRowTiltFails(t *testing.T) {
	for _, a := range [][]int{{0}, {-1}, {1}, {-1000}, {1000}, {0, -1}, {0, -1000}, {1000, 1000}, filled(rowMax, 0)} {
		for _, x := range outside() {
			for _, y := range []int{0, 1, -1, 1000, -1000, x} {
				got, ok := impl.RowTilt(a, x, y)
				wantNone(t, got, ok, "RowTilt", a, x, y)
				got, ok = impl.RowTilt(a, y, x)
				wantNone(t, got, ok, "RowTilt", a, y, x)
			}
		}
	}
	for _, a := range noRows() {
		for _, x := range []int{-1, 0, 1, 1000, math.MinInt} {
			got, ok := impl.RowTilt(a, x, 0)
			wantNone(t, got, ok, "RowTilt", a, x, 0)
			got, ok = impl.RowTilt(a, 0, x)
			wantNone(t, got, ok, "RowTilt", a, 0, x)
		}
	}
}

func TestRowLeast(t *testing.T) {
	for _, c := range []struct {
		row                []int
		least, first, last int
	}{
		{[]int{5}, 5, 0, 0},
		{[]int{-1000}, -1000, 0, 0},
		{[]int{1000, 1000}, 1000, 0, 1},
		{[]int{3, 1, 1, 2}, 1, 1, 2},
		{[]int{3, 2, 1}, 1, 2, 2},
		{[]int{1, 2, 3}, 1, 0, 0},
		{[]int{0, 5, 0, 7}, 0, 0, 2},
		{filled(rowMax, -1000), -1000, 0, 11},
		{filled(rowMax, 1000), 1000, 0, 11},
		{append(filled(rowMax-1, 9), -9), -9, 11, 11},
	} {
		least, first, last, ok := impl.RowLeast(c.row)
		if !ok || least != c.least || first != c.first || last != c.last {
			t.Errorf("RowLeast of %v returned %d, %d, %d, %t", c.row, least, first, last, ok)
		}
	}
	for _, a := range noRows() {
		if least, first, last, ok := impl.RowLeast(a); ok || least != 0 || first != 0 || last != 0 {
			t.Errorf("RowLeast of %v returned %d, %d, %d, %t", a, least, first, last, ok)
		}
	}
}

func TestRowPart(t *testing.T) {
	far := []int{-1000, -13, -2, -1, 0, 1, 2, 3, 4, 5, 6, 10, 11, 12, 13, 1 << 32, math.MaxInt - 1, math.MaxInt, math.MinInt, math.MinInt + 1}
	for _, a := range longRows() {
		for _, from := range far {
			for _, to := range far {
				got, ok := impl.RowPart(a, from, to)
				if 0 <= from && from <= to && to < len(a) {
					wantList(t, got, ok, a[from:to+1], "RowPart", a, from, to)
				} else {
					wantNone(t, got, ok, "RowPart", a, from, to)
				}
			}
		}
	}
	got, ok := impl.RowPart([]int{4}, 0, 0)
	wantList(t, got, ok, []int{4}, "RowPart")
	got, ok = impl.RowPart([]int{4}, 0, 1)
	wantNone(t, got, ok, "RowPart")
	for _, a := range noRows() {
		got, ok := impl.RowPart(a, 0, 0)
		wantNone(t, got, ok, "RowPart", a, 0, 0)
		got, ok = impl.RowPart(a, 0, len(a)-1)
		wantNone(t, got, ok, "RowPart", a, 0, len(a)-1)
		got, ok = impl.RowPart(a, len(a)-1, len(a)-1)
		wantNone(t, got, ok, "RowPart", a, len(a)-1, len(a)-1)
	}
}
