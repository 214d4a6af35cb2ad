package tests

import (
	"math"
	"slices"
	"testing"

	"loop.example/bentrows/impl"
)

func TestMergeTry(t *testing.T) {
	for _, a := range mergeRows() {
		for _, b := range mergeRows() {
			got, ok := impl.MergeTry(a, b)
			wantList(t, got, ok, mergedOf(a, b), "MergeTry", a, b)
		}
	}
	for _, c := range []struct{ a, b, want []int }{
		{[]int{0, 1, 4}, []int{0, 2}, []int{0, 1, 3, 6}},
		{[]int{3}, []int{4}, []int{7}},
		{[]int{3}, []int{4, -1, 9}, []int{7, 2, 12}},
		{[]int{500}, []int{500}, []int{1000}},
		{[]int{-500}, []int{-500}, []int{-1000}},
		{[]int{1000}, []int{0}, []int{1000}},
		{[]int{1000}, []int{-1000}, []int{0}},
		// The greatest sum of both is no entry, but it is not the least one of its place.
		{[]int{0, 1000, 0}, []int{0, 1000, 0}, []int{0, 1000, 0, 1000, 0}},
		{[]int{0, 5, 0}, []int{0, 5, 0}, []int{0, 5, 0, 5, 0}},
		{filled(rowMax, 1000), []int{-1000}, filled(rowMax, 0)},
		{filled(rowMax-1, 0), []int{0, 0}, filled(rowMax, 0)},
		{counted(6, 0, 1), counted(7, 0, 2), []int{0, 1, 2, 3, 4, 5, 7, 9, 11, 13, 15, 17}},
	} {
		got, ok := impl.MergeTry(c.a, c.b)
		wantList(t, got, ok, c.want, "MergeTry", c.a, c.b)
		got, ok = impl.MergeTry(c.b, c.a)
		wantList(t, got, ok, c.want, "MergeTry", c.b, c.a)
	}
}

// unmergeable returns pairs of bent rows whose merged row has too many entries, or one that is too great.
func unmergeable() [][2][]int {
	return [][2][]int{
		{filled(rowMax, 0), {0, 0}},
		{filled(rowMax-1, 0), {0, 0, 0}},
		{filled(6, 0), filled(8, 0)},
		{filled(7, 0), filled(7, 0)},
		{filled(rowMax, 0), filled(rowMax, 0)},
		{{1000}, {1}},
		{{-1000}, {-1}},
		{{501}, {500}},
		{{-501}, {-500}},
		{{1000}, {1000}},
		{{-1000}, {-1000}},
		{{0, 1000}, {0, 1}},
		{{0, -1000}, {0, -1}},
		{{1000, 0}, {1, 0}},
		{{600, 0, 600}, {-500, 0, 600}},
		{{600, 600}, {600, 0}},
		{{0, -600, 0}, {0, -600, 0}},
		{{1000, -1000}, {-1000, 1000}},
		{filled(rowMax, -999), {-2}},
	}
}

func TestMergeTryFails(t *testing.T) {
	for _, p := range append(unmergeable(), [2][]int{{1, 1000, 1}, {1}}, [2][]int{{500, 1000, 500}, {500, 1000, 500}}, [2][]int{{9, -600, 9, 9}, {9, -600, 9, 9}}) {
		wantUnmerged(t, p[0], p[1])
		wantUnmerged(t, p[1], p[0])
	}
	for _, a := range noRows() {
		for _, b := range append(noRows(), []int{0}, []int{-1}, []int{1, 2}, filled(rowMax, 0)) {
			wantUnmerged(t, a, b)
			wantUnmerged(t, b, a)
		}
	}
}

func wantUnmerged(t *testing.T, a []int, b []int) {
	t.Helper()
	got, ok := impl.MergeTry(a, b)
	wantNone(t, got, ok, "MergeTry", a, b)
	got, ok = impl.MergeSlopes(a, b)
	wantNone(t, got, ok, "MergeSlopes", a, b)
	got, ok = impl.MergeFirst(a, b)
	wantNone(t, got, ok, "MergeFirst", a, b)
	got, ok = impl.MergeMany([][]int{a, b})
	wantNone(t, got, ok, "MergeMany", a, b)
}

func TestMergeSlopes(t *testing.T) {
	for _, a := range bentMergeRows() {
		for _, b := range bentMergeRows() {
			got, ok := impl.MergeSlopes(a, b)
			wantList(t, got, ok, slopesMerged(a, b), "MergeSlopes", a, b)
		}
	}
	for _, c := range []struct{ a, b, want []int }{
		{[]int{0, 1, 4}, []int{0, 2}, []int{0, 1, 3, 6}},
		{[]int{5}, []int{-7}, []int{-2}},
		{[]int{5}, []int{3, 1, 0}, []int{8, 6, 5}},
		{[]int{0, 1, 2}, []int{0, 1}, []int{0, 1, 2, 3}},
		{[]int{1000, 0}, []int{-1000, 0}, []int{0, -1000, 0}},
		{[]int{500, -500}, []int{500, -500}, []int{1000, 0, -1000}},
		{counted(rowMax, 1000, -1), []int{-1000}, counted(rowMax, 0, -1)},
	} {
		got, ok := impl.MergeSlopes(c.a, c.b)
		wantList(t, got, ok, c.want, "MergeSlopes", c.a, c.b)
	}
}

// TestMergeSlopesOfOthers takes rows that are not bent, on either side, and both.
func TestMergeSlopesOfOthers(t *testing.T) {
	failed := 0
	for _, a := range mergeRows() {
		for _, b := range mergeRows() {
			if isBent(a) && isBent(b) {
				continue
			}
			failed++
			got, ok := impl.MergeSlopes(a, b)
			wantNone(t, got, ok, "MergeSlopes", a, b)
		}
	}
	if failed < 1000 {
		t.Fatalf("only %d pairs have a row that is not bent", failed)
	}
	for _, a := range [][]int{{0, 1, 0}, {0, 0, -1}, {0, 1, 1}, {0, 2, 3, 6}, append(filled(rowMax-1, 0), -1)} {
		got, ok := impl.MergeSlopes(a, []int{0})
		wantNone(t, got, ok, "MergeSlopes", a, []int{0})
		got, ok = impl.MergeSlopes([]int{0}, a)
		wantNone(t, got, ok, "MergeSlopes", []int{0}, a)
	}
}

func TestMergeFirst(t *testing.T) {
	for _, a := range mergeRows() {
		for _, b := range mergeRows() {
			want := firstOf(a, b)
			if !isRow(mergedOf(a, b)) {
				want = nil
			}
			got, ok := impl.MergeFirst(a, b)
			wantList(t, got, ok, want, "MergeFirst", a, b)
		}
	}
	for _, c := range []struct{ a, b, want []int }{
		{[]int{0, 1, 4}, []int{0, 2}, []int{0, 1, 1, 2}},
		{[]int{0, 2}, []int{0, 1, 4}, []int{0, 0, 1, 1}},
		{[]int{8}, []int{9}, []int{0}},
		{[]int{8}, []int{9, 1, 5}, []int{0, 0, 0}},
		{[]int{9, 1, 5}, []int{8}, []int{0, 1, 2}},
		// Equal sums at several places: the least place of the first row is told.
		{[]int{0, 0, 0}, []int{0, 0, 0}, []int{0, 0, 0, 1, 2}},
		{[]int{0, 1, 0}, []int{0, 1, 0}, []int{0, 0, 0, 1, 2}},
		{[]int{2, 1, 0}, []int{2, 1, 0}, []int{0, 0, 0, 1, 2}},
		// For rows that are not bent, the places may fall and grow by more than 1.
		{[]int{0, 5, 0}, []int{0, 9, 9, 0}, []int{0, 1, 2, 0, 1, 2}},
		{[]int{9, 9, 0}, []int{0, 0, 0}, []int{0, 0, 2, 2, 2}},
		{[]int{1000}, filled(rowMax, -1000), filled(rowMax, 0)},
	} {
		got, ok := impl.MergeFirst(c.a, c.b)
		wantList(t, got, ok, c.want, "MergeFirst", c.a, c.b)
	}
}

func TestMergeTimes(t *testing.T) {
	for _, a := range append(manyRows(), mergeRows()...) {
		for k := 1; k <= timesMax; k++ {
			got, ok := impl.MergeTimes(a, k)
			wantList(t, got, ok, manyOf(slices.Repeat([][]int{a}, k)), "MergeTimes", a, k)
		}
	}
	for _, c := range []struct {
		row  []int
		k    int
		want []int
	}{
		{[]int{7}, 1, []int{7}},
		{[]int{7}, 5, []int{35}},
		{[]int{200}, 5, []int{1000}},
		{[]int{-200}, 5, []int{-1000}},
		{[]int{0, 200}, 5, []int{0, 200, 400, 600, 800, 1000}},
		{[]int{0, 1, 4}, 2, []int{0, 1, 2, 5, 8}},
		{[]int{0, 1, 4}, 5, []int{0, 1, 2, 3, 4, 5, 8, 11, 14, 17, 20}},
		{[]int{0, 9, 0}, 3, []int{0, 9, 0, 9, 0, 9, 0}},
		{filled(6, 1), 2, filled(rowMax-1, 2)},
		{filled(rowMax, 1000), 1, filled(rowMax, 1000)},
		{filled(rowMax, -1000), 1, filled(rowMax, -1000)},
	} {
		got, ok := impl.MergeTimes(c.row, c.k)
		wantList(t, got, ok, c.want, "MergeTimes", c.row, c.k)
	}
}

func TestMergeTimesFails(t *testing.T) {
	for _, a := range [][]int{{0}, {0, 0}, filled(rowMax, 0)} {
		for _, k := range append(outside(), 0, -1, timesMax+1, 100) {
			got, ok := impl.MergeTimes(a, k)
			wantNone(t, got, ok, "MergeTimes", a, k)
		}
	}
	for _, c := range []struct {
		row []int
		k   int
	}{
		{filled(7, 0), 2},
		{filled(5, 0), 3},
		{filled(4, 0), 4},
		{filled(4, 0), 5},
		{filled(rowMax, 0), 2},
		{[]int{201}, 5},
		{[]int{-201}, 5},
		{[]int{501}, 2},
		{[]int{0, 251}, 4},
		{[]int{-251, 0}, 4},
	} {
		got, ok := impl.MergeTimes(c.row, c.k)
		wantNone(t, got, ok, "MergeTimes", c.row, c.k)
	}
	for _, a := range noRows() {
		for _, k := range []int{0, 1, 2, timesMax, timesMax + 1, math.MinInt} {
			got, ok := impl.MergeTimes(a, k)
			wantNone(t, got, ok, "MergeTimes", a, k)
		}
	}
}

func TestMergeMany(t *testing.T) {
	for _, rows := range someLists() {
		got, ok := impl.MergeMany(rows)
		wantList(t, got, ok, manyOf(rows), "MergeMany", rows)
	}
	for _, c := range []struct {
		rows [][]int
		want []int
	}{
		{[][]int{{5}}, []int{5}},
		{[][]int{{0, 9, 0}}, []int{0, 9, 0}},
		{[][]int{filled(rowMax, -1000)}, filled(rowMax, -1000)},
		{[][]int{{1}, {2}, {3}, {4}}, []int{10}},
		{[][]int{{0, 1, 4}, {0, 2}}, []int{0, 1, 3, 6}},
		{[][]int{{0, 3}, {0, 1}, {0, 2}}, []int{0, 1, 3, 6}},
		{[][]int{{250}, {250}, {250}, {250}}, []int{1000}},
		{[][]int{filled(4, 0), filled(4, 0), filled(4, 0), filled(3, 0)}, filled(rowMax, 0)},
		// The second row of these makes up for the first one before the third one is merged.
		{[][]int{{1000}, {-1000}, {1000}}, []int{1000}},
		{[][]int{{-1}, {1}, {1000}}, []int{1000}},
	} {
		got, ok := impl.MergeMany(c.rows)
		wantList(t, got, ok, c.want, "MergeMany", c.rows)
	}
}

func TestMergeManyFails(t *testing.T) {
	for _, rows := range [][][]int{
		nil,
		{},
		{{0}, {0}, {0}, {0}, {0}},
		slices.Repeat([][]int{{0}}, 100),
		{filled(4, 0), filled(4, 0), filled(4, 0), filled(4, 0)},
		{{500}, {500}, {1}},
		// A step on the way leads to no row, though all sums together would be entries.
		{{1000}, {1}, {-1}},
		{{-1000}, {-1}, {1}},
		{{1000}, {1000}, {-1000}, {-1000}},
	} {
		got, ok := impl.MergeMany(rows)
		wantNone(t, got, ok, "MergeMany", rows)
	}
	for _, a := range noRows() {
		for n := range manyMax {
			for place := range n + 1 {
				rows := slices.Repeat([][]int{{0}}, n+1)
				rows[place] = a
				got, ok := impl.MergeMany(rows)
				wantNone(t, got, ok, "MergeMany", rows)
			}
		}
	}
}

func TestMergeRest(t *testing.T) {
	for _, c := range mergeRows() {
		for _, a := range mergeRows() {
			got, ok := impl.MergeRest(c, a)
			if len(c) < len(a) {
				wantNone(t, got, ok, "MergeRest", c, a)
				continue
			}
			wantList(t, got, ok, restOf(c, a), "MergeRest", c, a)
		}
	}
	for _, c := range []struct{ c, a, want []int }{
		{[]int{0, 1, 3, 6}, []int{0, 2}, []int{0, 1, 4}},
		{[]int{5}, []int{3}, []int{2}},
		{[]int{5, 1, 9}, []int{3}, []int{2, -2, 6}},
		{[]int{4, 4, 4}, []int{1, 3, 2}, []int{3}},
		{[]int{-4, -4}, []int{1, 3}, []int{-5}},
		{filled(rowMax, 1000), filled(rowMax, 0), []int{1000}},
		{filled(rowMax, 1000), filled(rowMax, 1000), []int{0}},
		{filled(rowMax, -1000), []int{0}, filled(rowMax, -1000)},
		{[]int{500}, []int{-500}, []int{1000}},
		{[]int{-1000, 0}, []int{1000, 0}, []int{0}},
	} {
		got, ok := impl.MergeRest(c.c, c.a)
		wantList(t, got, ok, c.want, "MergeRest", c.c, c.a)
	}
}

func TestMergeRestFails(t *testing.T) {
	for _, c := range []struct{ c, a []int }{
		{[]int{0}, []int{0, 0}},
		{filled(rowMax-1, 0), filled(rowMax, 0)},
		{[]int{1}, []int{-1000}},
		{[]int{-1}, []int{1000}},
		{[]int{1000, 1000}, []int{0, -1}},
		{[]int{-1000, -1000}, []int{1, 1}},
		{[]int{0, 0, 1000}, []int{0, -1}},
	} {
		got, ok := impl.MergeRest(c.c, c.a)
		wantNone(t, got, ok, "MergeRest", c.c, c.a)
	}
	for _, a := range noRows() {
		for _, b := range append(noRows(), []int{0}, []int{1, 2, 3}, filled(rowMax, 0)) {
			got, ok := impl.MergeRest(a, b)
			wantNone(t, got, ok, "MergeRest", a, b)
			got, ok = impl.MergeRest(b, a)
			wantNone(t, got, ok, "MergeRest", b, a)
		}
	}
}

func TestMergeUnit(t *testing.T) {
	for _, a := range append(manyRows(), unitRows()...) {
		got, ok := impl.MergeUnit(a)
		if want := a[0] == 0; ok != want || want && got != -slices.Min(a) || !want && got != 0 {
			t.Fatalf("MergeUnit of %v returned %d, %t", a, got, ok)
		}
	}
	for _, c := range []struct {
		row  []int
		want int
	}{
		{[]int{0}, 0},
		{[]int{0, 5, 9}, 0},
		{[]int{0, -3, 2, -7, 1}, 7},
		{[]int{0, -1000}, 1000},
		{append(filled(rowMax-1, 0), -1), 1},
	} {
		if got, ok := impl.MergeUnit(c.row); !ok || got != c.want {
			t.Errorf("MergeUnit of %v returned %d, %t; want %d", c.row, got, ok, c.want)
		}
	}
	bad := append(noRows(), []int{1}, []int{-1}, []int{1000}, []int{-1000}, []int{1, 0}, []int{-5, 0, -9}, filled(rowMax, 3))
	for _, x := range outside() {
		bad = append(bad, []int{x}, []int{0, x})
	}
	for _, a := range bad {
		if got, ok := impl.MergeUnit(a); ok || got != 0 {
			t.Errorf("MergeUnit of %v returned %d, %t", a, got, ok)
		}
	}
}

func TestMergeHalf(t *testing.T) {
	for _, a := range append(manyRows(), mergeRows()...) {
		for n := 1; n <= len(a); n++ {
			got, ok := impl.MergeHalf(a, n)
			wantList(t, got, ok, halfOf(a, n), "MergeHalf", a, n)
		}
	}
	for _, c := range []struct {
		row  []int
		n    int
		want []int
	}{
		{[]int{4}, 1, []int{8}},
		{[]int{-500}, 1, []int{-1000}},
		{[]int{0, 1, 4}, 3, []int{0, 1, 2}},
		{[]int{0, 1, 4}, 1, []int{0}},
		{[]int{0, 9, 0, 5}, 4, []int{0, 9, 0, 5}},
		// The last entry is too great to be doubled, but no sum is made of two of it.
		{[]int{0, 1000}, 2, []int{0, 1000}},
		// Just the entries of the beginning that is told have to fit.
		{[]int{1, 1000}, 1, []int{2}},
		{filled(rowMax, 500), rowMax, filled(rowMax, 1000)},
		{counted(rowMax, 0, 90), rowMax, counted(rowMax, 0, 90)},
	} {
		got, ok := impl.MergeHalf(c.row, c.n)
		wantList(t, got, ok, c.want, "MergeHalf", c.row, c.n)
	}
}

func TestMergeHalfFails(t *testing.T) {
	for _, a := range [][]int{{0}, {0, 0}, {0, 1, 4}, filled(rowMax, 0)} {
		for _, n := range append(outside(), 0, -1, len(a)+1, 2*len(a)+1, rowMax+1) {
			got, ok := impl.MergeHalf(a, n)
			wantNone(t, got, ok, "MergeHalf", a, n)
		}
	}
	for _, c := range []struct {
		row []int
		n   int
	}{
		{[]int{501}, 1},
		{[]int{-501}, 1},
		{[]int{1, 1000}, 2},
		{[]int{0, -501, 0}, 3},
		{[]int{-1, 1, -1000}, 3},
	} {
		got, ok := impl.MergeHalf(c.row, c.n)
		wantNone(t, got, ok, "MergeHalf", c.row, c.n)
	}
	for _, a := range noRows() {
		for _, n := range []int{0, 1, len(a), rowMax, math.MaxInt} {
			got, ok := impl.MergeHalf(a, n)
			wantNone(t, got, ok, "MergeHalf", a, n)
		}
	}
}
