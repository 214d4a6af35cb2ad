package tests

import (
	"math"
	"slices"
	"testing"
)

const (
	rowMax   = 12
	entryMax = 1000
)

// rowsOf returns all rows of 1 to most entries with these values.
func rowsOf(most int, values ...int) [][]int {
	var all [][]int
	last := [][]int{nil}
	for range most {
		var next [][]int
		for _, a := range last {
			for _, x := range values {
				next = append(next, append(slices.Clone(a), x))
			}
		}
		all = append(all, next...)
		last = next
	}
	return all
}

// filled returns a list of n entries x.
func filled(n int, x int) []int {
	return slices.Repeat([]int{x}, n)
}

// counted returns the list of n entries that begins with first and goes on by slope.
func counted(n int, first int, slope int) []int {
	a := make([]int, n)
	for i := range a {
		a[i] = first + i*slope
	}
	return a
}

// longRows returns rows of 5 to rowMax entries, bent ones among them, and those at the limits.
func longRows() [][]int {
	rows := [][]int{
		filled(rowMax, 0), filled(rowMax, entryMax), filled(rowMax, -entryMax), counted(rowMax, -5, 1),
		{1000, -1000, 1000, -1000, 1000, -1000, 1000, -1000, 1000, -1000, 1000, -1000},
		{36, 25, 16, 9, 4, 1, 0, 1, 4, 9, 16, 25},
		{0, 1, 4, 9, 16, 25, 36, 49, 64, 81, 100, 121},
		{1000, 0, 0, 0, 0, 0, 0, 0, 0, 0, 0, 1000},
		{9, 3, 7, 3, 3, 8, 3, 5, 4, 6, 3, 9},
		{4, -2, -7, -7, -7, -1, 9},
		{0, 0, 0, 0, 1, 0},
		{0, 1, 2, 3, 2, 1},
	}
	seed := 7
	for n := 5; n <= rowMax; n++ {
		a := make([]int, n)
		for i := range a {
			seed = (seed*1103 + 12345) % 65536
			a[i] = seed%101 - 50
		}
		rows = append(rows, a)
	}
	return rows
}

// fewRows returns rows to be taken in pairs.
func fewRows() [][]int {
	rows := rowsOf(3, -1, 0, 1, 2)
	rows = append(rows, rowsOf(2, -1000, -999, -500, 0, 500, 999, 1000)...)
	return append(rows, longRows()...)
}

// manyRows returns rows to be taken one by one.
func manyRows() [][]int {
	rows := rowsOf(5, -2, -1, 0, 3)
	rows = append(rows, rowsOf(4, -1000, -1, 0, 999, 1000)...)
	return append(rows, longRows()...)
}

// noRows returns lists that are no rows: too few or too many entries, or one entry, at each place in turn, that is too great.
func noRows() [][]int {
	lists := [][]int{nil, {}, filled(rowMax+1, 0), counted(rowMax+1, 0, 1), filled(rowMax+1, 2), filled(100, 0)}
	for _, n := range []int{1, 2, 3, rowMax} {
		for i := range n {
			for _, x := range []int{entryMax + 1, -entryMax - 1, math.MaxInt, math.MinInt, math.MinInt + 1} {
				a := filled(n, 0)
				a[i] = x
				lists = append(lists, a)
			}
		}
	}
	return append(lists, filled(2, math.MaxInt), filled(2, math.MinInt), filled(3, entryMax+1), filled(3, -entryMax-1))
}

// outside returns whole numbers that are no entries.
func outside() []int {
	return []int{entryMax + 1, -entryMax - 1, 2 * entryMax, 1 << 31, 1 << 32, -1 << 32, math.MaxInt, math.MaxInt - 1, math.MinInt, math.MinInt + 1}
}

// isRow says again what the document calls a row.
func isRow(a []int) bool {
	return len(a) >= 1 && len(a) <= rowMax && slices.Max(a) <= entryMax && slices.Min(a) >= -entryMax
}

// isBent says again when a row is bent: no entry is greater than half of the sum of both beside it.
func isBent(a []int) bool {
	for i := 1; i+1 < len(a); i++ {
		if 2*a[i] > a[i-1]+a[i+1] {
			return false
		}
	}
	return true
}

// wantList checks a result against the list that is told, or against a failure if this is no row.
func wantList(t *testing.T, got []int, ok bool, want []int, call string, args ...any) {
	t.Helper()
	if !isRow(want) {
		wantNone(t, got, ok, call, args...)
		return
	}
	if !ok || !slices.Equal(got, want) {
		t.Fatalf("%s of %v returned %v, %t; want %v, true", call, args, got, ok, want)
	}
}

// wantNone checks that a call failed, with nothing beside the false.
func wantNone(t *testing.T, got []int, ok bool, call string, args ...any) {
	t.Helper()
	if ok || len(got) != 0 {
		t.Fatalf("%s of %v returned %v, %t; want nothing, false", call, args, got, ok)
	}
}
