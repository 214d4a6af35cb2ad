package tests

import (
	"math"
	"slices"
	"testing"

	"loop.example/bentrows/impl"
)

func wantSearch(t *testing.T, a []int, want int, wantOk bool) {
	t.Helper()
	if got, ok := impl.ValleySearch(a); got != want || ok != wantOk {
		t.Fatalf("ValleySearch of %v returned %d, %t; want %d, %t", a, got, ok, want, wantOk)
	}
}

func wantCost(t *testing.T, a []int, want int, wantOk bool) {
	t.Helper()
	if got, ok := impl.ValleyCost(a); got != want || ok != wantOk {
		t.Fatalf("ValleyCost of %v returned %d, %t; want %d, %t", a, got, ok, want, wantOk)
	}
}

func wantTop(t *testing.T, a []int, first int, last int, wantOk bool) {
	t.Helper()
	if i, k, ok := impl.HillTop(a); i != first || k != last || ok != wantOk {
		t.Fatalf("HillTop of %v returned %d, %d, %t; want %d, %d, %t", a, i, k, ok, first, last, wantOk)
	}
}

func wantRound(t *testing.T, a []int, want bool) {
	t.Helper()
	if got := impl.HillRound(a); got != want {
		t.Fatalf("HillRound of %v returned %t", a, got)
	}
}

// noValleys returns rows with more than one valley, told apart by equal entries, by falls that come late, and by the limits.
func noValleys() [][]int {
	return [][]int{
		{0, 1, 0}, {-1000, 1000, -1000}, {999, 1000, 999}, {1, 0, 1, 0, 1}, {0, 1, 0, 0}, {0, 0, 1, 0},
		{0, 1, 1, 0}, {0, 1, 1, 1, 1, 1, 1, 1, 1, 1, 1, 0}, {5, 1, 2, 2, 1, 5}, {5, 1, 2, 2, 3, 3, 0}, {5, 5, 6, 6, 5, 5},
		{3, 1, 1, 2, 1, 1, 3}, {0, 2, 1, 3}, {9, 8, 9, 8, 7, 6}, {1, 2, 3, 4, 5, 6, 7, 8, 9, 10, 11, 10}, {10, 11, 10, 9, 8, 7, 6, 5, 4, 3, 2, 1},
	}
}

func TestValleyOne(t *testing.T) {
	held := 0
	for _, a := range valleyRows() {
		want := hasValley(a)
		if got := impl.ValleyOne(a); got != want {
			t.Fatalf("ValleyOne of %v returned %t", a, got)
		}
		if want {
			held++
		}
	}
	if held < 500 || len(valleyRows())-held < 500 {
		t.Fatalf("%d of %d rows have one valley", held, len(valleyRows()))
	}
	for _, a := range append(flatRows(), []int{7}, []int{-1000}, []int{1000}, []int{3, 2}, []int{2, 3}, []int{4, 4}, counted(rowMax, 6, -1), counted(rowMax, -6, 1)) {
		if !impl.ValleyOne(a) {
			t.Errorf("ValleyOne does not hold for %v", a)
		}
	}
	for _, a := range append(noRows(), noValleys()...) {
		if impl.ValleyOne(a) {
			t.Errorf("ValleyOne holds for %v", a)
		}
	}
}

func TestValleySearch(t *testing.T) {
	for _, a := range valleyRows() {
		if hasValley(a) {
			wantSearch(t, a, slices.Index(a, slices.Min(a)), true)
		} else {
			wantSearch(t, a, 0, false)
		}
	}
	for _, c := range []struct {
		row  []int
		want int
	}{
		{[]int{3, 1, 1, 2}, 1},
		{[]int{7}, 0},
		{[]int{-1000}, 0},
		{[]int{1000}, 0},
		{[]int{4, 4}, 0},
		{[]int{4, 3}, 1},
		{[]int{3, 4}, 0},
		{counted(rowMax, 6, -1), 11},
		{counted(rowMax, -6, 1), 0},
		{filled(rowMax, -1000), 0},
		{[]int{1000, 1000, -1000, -1000, 1000, 1000}, 2},
		// Equal entries ahead of the least one, behind it, at it, and all of these.
		{[]int{5, 5, 1, 2}, 2},
		{[]int{9, 5, 5, 5, 1}, 4},
		{append(filled(rowMax-1, 5), 4), 11},
		{[]int{5, 1, 2, 2}, 1},
		{[]int{1, 2, 2, 2}, 0},
		{[]int{5, 1, 1, 1}, 1},
		{[]int{1, 1, 1, 2}, 0},
		{[]int{9, 9, 9, 3, 3, 3, 3, 7, 7, 7, 8, 8}, 3},
		{[]int{9, 9, 8, 8, 8, 8, 8, 8, 8, 8, 2, 3}, 10},
	} {
		wantSearch(t, c.row, c.want, true)
	}
	for _, a := range append(noRows(), noValleys()...) {
		wantSearch(t, a, 0, false)
	}
}

func TestValleyCost(t *testing.T) {
	for _, a := range valleyRows() {
		wantCost(t, a, valleyCostOf(a), true)
	}
	for _, a := range valleys() {
		wantCost(t, a, 0, true)
	}
	for _, c := range []struct {
		row  []int
		want int
	}{
		{[]int{1, 0, 1, 0, 1}, 1},
		{[]int{7}, 0},
		{[]int{-1000}, 0},
		{[]int{3, 9}, 0},
		{[]int{9, 3}, 0},
		{[]int{0, 1, 0}, 1},
		{[]int{0, 1, 1, 0}, 1},
		{[]int{0, 5, 5, 0}, 5},
		{[]int{0, 0, 5, 0, 0}, 5},
		{[]int{1, 1, 0, 1, 1, 0, 0, 1, 1}, 1},
		{[]int{5, 1, 2, 2, 1, 5}, 1},
		{[]int{-1000, 1000, -1000}, 2000},
		{[]int{-1000, 1000, 1000, -1000}, 2000},
		{[]int{1000, -1000, 1000, -1000, 1000}, 2000},
		{[]int{1000, -1000, 1000, -1000, 1000, -1000, 1000, -1000, 1000, -1000, 1000, -1000}, 10000},
		{[]int{0, 3, 0, 3, 0}, 6},
		{[]int{0, 4, 3, 2, 1, 0}, 4},
		{[]int{1, 3, 5, 7, 9, 0}, 9},
	} {
		wantCost(t, c.row, c.want, true)
	}
	for _, a := range noRows() {
		wantCost(t, a, 0, false)
	}
}

// TestValleyCostTried takes all small rows, and all small rows with one valley beside them.
func TestValleyCostTried(t *testing.T) {
	valleys := slices.DeleteFunc(rowsOf(5, 0, 1, 2, 3), func(a []int) bool { return !hasValley(a) })
	for _, a := range rowsOf(5, 0, 1, 2, 3) {
		wantCost(t, a, valleyCostTried(a, valleys), true)
	}
}

func TestHillRound(t *testing.T) {
	held := 0
	for _, a := range append(hills(), fewHills()...) {
		wantRound(t, a, isRound(a))
		if isRound(a) {
			held++
		}
	}
	if held < 500 || len(hills())-held < 500 {
		t.Fatalf("%d of %d hills are round", held, len(hills()))
	}
	for _, a := range [][]int{
		{0}, {1}, {1000}, {0, 0}, {0, 5}, {5, 0}, {1, 1000}, {1000, 1}, filled(rowMax, 0), filled(rowMax, 1000),
		{0, 0, 7, 0, 0}, {0, 1, 2, 1, 0}, {0, 0, 1, 2}, {2, 1, 0, 0}, {1, 2, 4}, {4, 2, 1}, {961, 31, 1}, {250, 500, 1000}, {0, 1, 1000, 1, 0},
	} {
		wantRound(t, a, true)
	}
	for _, a := range [][]int{
		{1, 0, 1}, {5, 0, 0, 5}, {0, 3, 0, 3, 0}, {1000, 0, 0, 0, 0, 0, 0, 0, 0, 0, 0, 1000}, {1, 2, 0, 2},
		{1, 2, 5}, {5, 2, 1}, {2, 1, 2}, {1000, 999, 1000}, {250, 499, 1000}, {962, 31, 1}, {0, 1, 1, 2, 0}, {0, 0, 3, 1, 1, 0},
	} {
		wantRound(t, a, false)
	}
	for _, a := range append(noRows(), noHills()...) {
		wantRound(t, a, false)
	}
}

func TestHillFold(t *testing.T) {
	for _, a := range fewHills() {
		for _, b := range fewHills() {
			got, ok := impl.HillFold(a, b)
			wantList(t, got, ok, foldedOf(a, b), "HillFold", a, b)
		}
	}
	for _, c := range []struct{ a, b, want []int }{
		{[]int{1, 1}, []int{1, 1}, []int{1, 2, 1}},
		{[]int{0}, []int{0}, []int{0}},
		{[]int{0}, []int{1000}, []int{0}},
		{[]int{7}, []int{8}, []int{56}},
		{[]int{2}, []int{3, 0, 5}, []int{6, 0, 10}},
		{[]int{1, 2}, []int{3, 4, 5}, []int{3, 10, 13, 10}},
		{[]int{0, 1}, []int{4, 0, 2, 0}, []int{0, 4, 0, 2, 0}},
		{[]int{0, 1, 0}, []int{0, 2, 0}, []int{0, 0, 2, 0, 0}},
		{[]int{25}, []int{40}, []int{1000}},
		{[]int{1000, 0}, []int{0, 1}, []int{0, 1000, 0}},
		// Two products that fit, and their sum just so.
		{[]int{10, 10}, []int{50, 50}, []int{500, 1000, 500}},
		{[]int{1}, filled(rowMax, 1000), filled(rowMax, 1000)},
		{[]int{0}, filled(rowMax, 1000), filled(rowMax, 0)},
		{filled(6, 0), filled(7, 9), filled(rowMax, 0)},
		{filled(6, 1), filled(7, 1), []int{1, 2, 3, 4, 5, 6, 6, 5, 4, 3, 2, 1}},
		{filled(2, 1), filled(rowMax-1, 1), append(append([]int{1}, filled(rowMax-2, 2)...), 1)},
	} {
		got, ok := impl.HillFold(c.a, c.b)
		wantList(t, got, ok, c.want, "HillFold", c.a, c.b)
		got, ok = impl.HillFold(c.b, c.a)
		wantList(t, got, ok, c.want, "HillFold", c.b, c.a)
	}
}

func TestHillFoldFails(t *testing.T) {
	wantUnfolded := func(a []int, b []int) {
		t.Helper()
		got, ok := impl.HillFold(a, b)
		wantNone(t, got, ok, "HillFold", a, b)
		got, ok = impl.HillFold(b, a)
		wantNone(t, got, ok, "HillFold", b, a)
	}
	for _, p := range [][2][]int{
		// One entry more than a row has, even if all are 0.
		{filled(7, 0), filled(7, 0)},
		{filled(7, 1), filled(7, 1)},
		{filled(rowMax, 0), {0, 0}},
		{filled(rowMax, 0), filled(rowMax, 0)},
		// Sums that are too great: a product, at either end and between, and a sum of products that fit.
		{{1000}, {2}},
		{{7}, {143}},
		{{1000}, {1000}},
		{filled(rowMax, 1000), {1000}},
		{{0, 0, 77}, {0, 13}},
		{{77, 0}, {13, 0, 0}},
		{{1, 500}, {501, 1}},
		{{500, 501}, {1, 1}},
		{{20, 10}, {50, 50}},
		{{0, 1000, 0}, {0, 1000, 0}},
		{filled(6, 13), filled(6, 13)},
	} {
		wantUnfolded(p[0], p[1])
	}
	for _, a := range append(noRows(), noHills()...) {
		for _, b := range append(noHills(), []int{}, []int{0}, []int{1}, []int{1, 2}, filled(rowMax, 0), filled(rowMax+1, 0), []int{math.MaxInt}, []int{math.MinInt}) {
			wantUnfolded(a, b)
		}
	}
}

func TestHillTop(t *testing.T) {
	for _, a := range append(hills(), fewHills()...) {
		first, last := topOf(a)
		wantTop(t, a, first, last, true)
	}
	for _, c := range []struct {
		hill        []int
		first, last int
	}{
		{[]int{0}, 0, 0},
		{[]int{1000}, 0, 0},
		{filled(rowMax, 0), 0, 11},
		{filled(rowMax, 1000), 0, 11},
		{[]int{0, 0, 1, 0}, 2, 2},
		{[]int{1, 3, 3, 3, 2}, 1, 3},
		{[]int{3, 3, 1}, 0, 1},
		{[]int{1, 3, 3}, 1, 2},
		// A hill that is not round may go down between the first place and the last one.
		{[]int{5, 0, 5}, 0, 2},
		{[]int{0, 5, 1, 4, 5, 3}, 1, 4},
		{counted(rowMax, 0, 1), 11, 11},
		{counted(rowMax, 11, -1), 0, 0},
	} {
		wantTop(t, c.hill, c.first, c.last, true)
	}
	for _, a := range append(noRows(), noHills()...) {
		wantTop(t, a, 0, 0, false)
	}
}

func TestHillRaise(t *testing.T) {
	succeeded := 0
	for _, a := range append(hills(), fewHills()...) {
		got, ok := impl.HillRaise(a)
		wantList(t, got, ok, raisedOf(a), "HillRaise", a)
		if ok {
			succeeded++
		}
	}
	if succeeded < 1000 {
		t.Fatalf("HillRaise succeeded only %d times", succeeded)
	}
	for _, c := range []struct{ hill, want []int }{
		{[]int{0}, []int{0}},
		{[]int{1000}, []int{1000}},
		{[]int{1000, 999}, []int{1000, 999}},
		{[]int{1000, 500, 1000}, []int{1000, 1000, 1000}},
		{[]int{3, 0, 2, 0, 1}, []int{3, 0, 12, 0, 1}},
		{[]int{0, 1, 1, 0}, []int{0, 3, 3, 0}},
		{[]int{1, 333, 333, 1}, []int{1, 999, 999, 1}},
		{filled(rowMax, 0), filled(rowMax, 0)},
		{filled(rowMax, 1), []int{1, 11, 55, 165, 330, 462, 462, 330, 165, 55, 11, 1}},
		{[]int{1000, 0, 0, 0, 0, 2, 2, 0, 0, 0, 0, 1000}, []int{1000, 0, 0, 0, 0, 924, 924, 0, 0, 0, 0, 1000}},
		{[]int{0, 90, 18, 6, 3, 2, 2, 3, 6, 18, 90, 0}, []int{0, 990, 990, 990, 990, 924, 924, 990, 990, 990, 990, 0}},
	} {
		got, ok := impl.HillRaise(c.hill)
		wantList(t, got, ok, c.want, "HillRaise", c.hill)
	}
}

func TestHillRaiseFails(t *testing.T) {
	for _, a := range [][]int{
		// Entries that are too great when they are raised, first or last among others that fit.
		{0, 501, 0}, {0, 1000, 0}, {0, 334, 0, 0}, {0, 0, 334, 0}, filled(3, 1000), filled(rowMax, 3), filled(rowMax, 1000),
		{0, 91, 0, 0, 0, 0, 0, 0, 0, 0, 0, 0}, {0, 0, 0, 0, 0, 0, 0, 0, 0, 0, 91, 0}, {0, 0, 0, 0, 0, 3, 0, 0, 0, 0, 0, 0},
	} {
		got, ok := impl.HillRaise(a)
		wantNone(t, got, ok, "HillRaise", a)
	}
	for _, a := range append(noRows(), noHills()...) {
		got, ok := impl.HillRaise(a)
		wantNone(t, got, ok, "HillRaise", a)
	}
}
