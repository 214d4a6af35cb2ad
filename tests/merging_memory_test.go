package tests

import (
	"runtime"
	"slices"
	"sync"
	"testing"

	"loop.example/bentrows/impl"
)

func mergeCalls() []rowCall {
	return []rowCall{
		{"MergeTry", func(a []int, b []int) []int { x, _ := impl.MergeTry(a, b); return x }},
		{"MergeTry with 0", func(a []int, b []int) []int { x, _ := impl.MergeTry(a, []int{0}); return x }},
		{"MergeTry of 0", func(a []int, b []int) []int { x, _ := impl.MergeTry([]int{0}, a); return x }},
		{"MergeSlopes", func(a []int, b []int) []int { x, _ := impl.MergeSlopes(a, b); return x }},
		{"MergeSlopes with 0", func(a []int, b []int) []int { x, _ := impl.MergeSlopes(a, []int{0}); return x }},
		{"MergeSlopes of 0", func(a []int, b []int) []int { x, _ := impl.MergeSlopes([]int{0}, a); return x }},
		{"MergeFirst", func(a []int, b []int) []int { x, _ := impl.MergeFirst(a, b); return x }},
		{"MergeTimes once", func(a []int, b []int) []int { x, _ := impl.MergeTimes(a, 1); return x }},
		{"MergeTimes", func(a []int, b []int) []int { x, _ := impl.MergeTimes(a, 2); return x }},
		{"MergeMany of one", func(a []int, b []int) []int { x, _ := impl.MergeMany([][]int{a}); return x }},
		{"MergeMany", func(a []int, b []int) []int { x, _ := impl.MergeMany([][]int{a, b, {0}, b}); return x }},
		{"MergeRest", func(a []int, b []int) []int { x, _ := impl.MergeRest(a, b); return x }},
		{"MergeRest with 0", func(a []int, b []int) []int { x, _ := impl.MergeRest(a, []int{0}); return x }},
		{"MergeUnit", func(a []int, b []int) []int { impl.MergeUnit(a); return nil }},
		{"MergeHalf", func(a []int, b []int) []int { x, _ := impl.MergeHalf(a, len(a)); return x }},
		{"MergeHalf of one", func(a []int, b []int) []int { x, _ := impl.MergeHalf(a, 1); return x }},
	}
}

// TestManyRowsStay takes rows that are parts of one list, and looks at the list of the rows, too.
func TestManyRowsStay(t *testing.T) {
	list := []int{0, 1, 4, 2, -3, 5, 7}
	rows := roomyLists([][]int{list[0:3], list[3:5], list[0:2]})
	kept := slices.Clone(list)
	merged, ok := impl.MergeMany(rows)
	wantList(t, merged, ok, manyOf([][]int{{0, 1, 4}, {2, -3}, {0, 1}}), "MergeMany", rows)
	scribble(merged)
	for i, a := range [][]int{{0, 1, 4}, {2, -3}, {0, 1}, {77}} {
		if !slices.Equal(rows[:4][i], a) {
			t.Errorf("the row %d is now %v", i, rows[:4][i])
		}
	}
	if !slices.Equal(list, kept) {
		t.Errorf("the list of the entries is now %v", list)
	}
}

// roomyLists returns a list of lists with room behind it that a careless append would fill.
func roomyLists(rows [][]int) [][]int {
	return append(slices.Clone(rows), []int{77}, []int{78})[:len(rows)]
}

// TestMergesOfOneList takes one list, and overlapping ones, as both arguments.
func TestMergesOfOneList(t *testing.T) {
	a := []int{0, 1, 4, 5}
	got, ok := impl.MergeTry(a, a)
	wantList(t, got, ok, []int{0, 1, 2, 5, 6, 9, 10}, "MergeTry", a, a)
	got, ok = impl.MergeSlopes(a[:3], a[:2])
	wantList(t, got, ok, []int{0, 1, 2, 5}, "MergeSlopes", a[:3], a[:2])
	got, ok = impl.MergeFirst(a[:3], a[1:3])
	wantList(t, got, ok, []int{0, 1, 1, 2}, "MergeFirst", a[:3], a[1:3])
	got, ok = impl.MergeRest(a, a[1:3])
	wantList(t, got, ok, []int{-1, 0, 3}, "MergeRest", a, a[1:3])
	got, ok = impl.MergeRest(a, a)
	wantList(t, got, ok, []int{0}, "MergeRest", a, a)
}

// TestMergesAtOnce asks from many goroutines at once, and again and again: each answer is the same.
func TestMergesAtOnce(t *testing.T) {
	a, b := []int{3, 0, 2, 0, 9, 9}, []int{4, 4, -7, 0, 1, 1, 2}
	merged, first, half := mergedOf(a, b), firstOf(a, b), halfOf(b, len(b))
	var askers sync.WaitGroup
	for range 50 {
		askers.Go(func() {
			for range 50 {
				x, _ := impl.MergeTry(a, b)
				y, _ := impl.MergeFirst(a, b)
				z, _ := impl.MergeHalf(b, len(b))
				if !slices.Equal(x, merged) || !slices.Equal(y, first) || !slices.Equal(z, half) {
					t.Errorf("MergeTry, MergeFirst and MergeHalf returned %v, %v and %v", x, y, z)
				}
			}
		})
	}
	askers.Wait()
}

// TestNoGoroutineStays checks that no goroutine outlives the call that began it, whether it succeeds or fails.
func TestNoGoroutineStays(t *testing.T) {
	before := runtime.NumGoroutine()
	for _, p := range append(memoryPairs(), [2][]int{{500, 0}, {501, 0}}) {
		for _, c := range mergeCalls() {
			c.call(p[0], p[1])
		}
	}
	wantNoMore(t, before)
}
