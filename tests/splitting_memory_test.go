package tests

import (
	"sync"
	"testing"

	"loop.example/bentrows/impl"
)

// splitCalls returns the functions that are asked about a row and a split of it, each one with both letters; the number of parts is that of the places.
func splitCalls() []pairCall {
	calls := []pairCall{
		{"SplitMany", func(a []int, split []int) [][]int {
			many, ok := impl.SplitMany(a, len(split))
			return [][]int{{many}, told(ok)}
		}},
		{"SplitEven", func(a []int, split []int) [][]int {
			even, ok := impl.SplitEven(a, len(split))
			return [][]int{{even}, told(ok)}
		}},
	}
	for _, letter := range append(letters(), "") {
		calls = append(calls, letterCalls(letter)...)
	}
	return calls
}

func letterCalls(letter string) []pairCall {
	return []pairCall{
		{"SplitCost by " + letter, func(a []int, split []int) [][]int {
			cost, ok := impl.SplitCost(a, letter, split)
			return [][]int{{cost}, told(ok)}
		}},
		{"SplitLeast by " + letter, func(a []int, split []int) [][]int {
			cost, ok := impl.SplitLeast(a, letter, len(split))
			return [][]int{{cost}, told(ok)}
		}},
		{"SplitFirst by " + letter, func(a []int, split []int) [][]int {
			x, ok := impl.SplitFirst(a, letter, len(split))
			return [][]int{x, told(ok)}
		}},
		{"SplitCosts by " + letter, func(a []int, split []int) [][]int {
			x, ok := impl.SplitCosts(a, letter)
			return [][]int{x, told(ok)}
		}},
		{"SplitAny by " + letter, func(a []int, split []int) [][]int {
			cost, count, ok := impl.SplitAny(a, letter, len(split))
			return [][]int{{cost, count}, told(ok)}
		}},
	}
}

func memorySplits() [][2][]int {
	return append(memoryPairs(), [][2][]int{
		{{1, 5, 6}, {0, 2}},
		{{1, 5, 6}, {2}},
		{{1, 5, 6}, {0, 1, 2}},
		{{6, 1, 5}, {1, 2}},
		{{9, 3, -4, 2}, {0, 2, 3}},
		{{7}, {0}},
		{{7}, {0, 1}},
		{{0, 0, 0, 0}, {1, 3}},
		{{3, 1, 2}, {0, 1}},
		{{3, 1, 2}, {2, 1, 0}},
		{filled(rowMax, 3), {11}},
		{filled(rowMax, 3), counted(rowMax, 0, 1)},
		{filled(rowMax, -1000), {3, 8, 11}},
		{counted(rowMax, 11, -1), {2, 4, 6, 8, 10, 11}},
		{filled(rowMax+1, 3), {11}},
		{{1001, 0}, {0, 1}},
		{{1, 5, 6}, nil},
		{nil, {0}},
	}...)
}

func TestSplitArgumentsStay(t *testing.T) {
	for _, c := range splitCalls() {
		for _, p := range memorySplits() {
			wantArgumentsStay(t, c.question(p))
		}
	}
}

func TestSplitResultsStay(t *testing.T) {
	for _, c := range splitCalls() {
		for _, p := range memorySplits() {
			wantResultsStay(t, func() question { return c.question(p) })
		}
	}
}

// TestSplitsOfOneList takes one list, and overlapping ones, as the row and the split.
func TestSplitsOfOneList(t *testing.T) {
	a := []int{0, 1, 2, 3}
	wantSplitCost(t, a, "w", a, 0)
	wantSplitCost(t, a, "s", a, 14)
	wantSplitCost(t, a[2:], "w", a[:2], 0)
	wantSplitCost(t, a[2:], "s", a[:2], 13)
	wantSplitCost(t, a[:3], "s", a[1:3], 5)
	wantSplitFirst(t, a[1:], "w", 2, []int{0, 2})
	wantSplitCosts(t, a[:3], "w", []int{2, 1, 0})
	wantNumbers(t, a, true, []int{0, 1, 2, 3}, "the list of the entries")
}

func TestSplitsAtOnce(t *testing.T) {
	var askers sync.WaitGroup
	for _, c := range splitCalls() {
		for _, p := range memorySplits() {
			wantSameAtOnce(t, &askers, c.question(p))
		}
	}
	askers.Wait()
}
