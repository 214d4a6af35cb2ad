package tests

import (
	"math"
	"slices"
	"strings"
	"testing"
)

// partPriceMax is the greatest number that is put to the cost of a split for each part.
const partPriceMax = 5000

// letters returns the letters that tell what a part costs.
func letters() []string {
	return []string{"w", "s"}
}

// noLetters returns texts that are none of both letters.
func noLetters() []string {
	return []string{
		"", "ws", "sw", "ww", "ss", "w s", "W", "S", " w", "w ", " s", "s ", "w\n", "\ns", "\x00", "w\x00", "\x00s", "x", "v", "r", "t", "0", "1",
		"width", "square", "wide", "\xff", "w\xff", "\xf3", "\u017f", "\uff57", "s\u0301", strings.Repeat("w", 1000), strings.Repeat("s", 12),
	}
}

// splitsOf returns, for each k, all splits of a row of n entries into k parts, in ascending order, by choosing the places ahead of the last one in all ways.
func splitsOf(n int) [][][]int {
	byCount := make([][][]int, n+1)
	for choice := range 1 << (n - 1) {
		var places []int
		for place := range n - 1 {
			if choice>>place&1 == 1 {
				places = append(places, place)
			}
		}
		places = append(places, n-1)
		byCount[len(places)] = append(byCount[len(places)], places)
	}
	for _, splits := range byCount {
		slices.SortFunc(splits, slices.Compare[[]int])
	}
	return byCount
}

// partsOf returns the entries of each part of a split: each entry belongs to as many parts as places of the split are ahead of its own.
func partsOf(a []int, split []int) [][]int {
	parts := make([][]int, len(split))
	for i, x := range a {
		ahead := 0
		for _, place := range split {
			if place < i {
				ahead++
			}
		}
		parts[ahead] = append(parts[ahead], x)
	}
	return parts
}

// partCost says again what a part costs, by taking all two of its entries: the greatest difference, or all products together.
func partCost(part []int, letter string) int {
	wide, square := 0, 0
	for _, x := range part {
		for _, y := range part {
			wide = max(wide, x-y)
			square += x * y
		}
	}
	if letter == "w" {
		return wide
	}
	return square
}

// splitCost says again what SplitCost returns.
func splitCost(a []int, letter string, split []int) int {
	cost := 0
	for _, part := range partsOf(a, split) {
		cost += partCost(part, letter)
	}
	return cost
}

// leastOfSplits returns the least cost of some splits, which are in ascending order, and those that have it.
func leastOfSplits(a []int, letter string, splits [][]int) (int, [][]int) {
	least, all := 1<<40, [][]int{}
	for _, split := range splits {
		cost := splitCost(a, letter, split)
		if cost < least {
			least, all = cost, nil
		}
		if cost == least {
			all = append(all, split)
		}
	}
	return least, all
}

// leastCosts says again what SplitCosts returns, by trying all splits.
func leastCosts(a []int, letter string) []int {
	var costs []int
	for _, splits := range splitsOf(len(a))[1:] {
		cost, _ := leastOfSplits(a, letter, splits)
		costs = append(costs, cost)
	}
	return costs
}

// anyOf returns the least cost of a split into any number of parts, with p for each part, and all numbers of parts for which it comes, out of the least costs of all numbers of parts.
func anyOf(costs []int, p int) (int, []int) {
	least, counts := 1<<40, []int{}
	for i, cost := range costs {
		count := i + 1
		if cost+p*count < least {
			least, counts = cost+p*count, nil
		}
		if cost+p*count == least {
			counts = append(counts, count)
		}
	}
	return least, counts
}

// evenSplitOf says again what SplitEven returns, by trying some splits.
func evenSplitOf(a []int, splits [][]int) int {
	least := 1 << 40
	for _, split := range splits {
		greatest := 0
		for _, part := range partsOf(a, split) {
			greatest = max(greatest, sumOf(part))
		}
		least = min(least, greatest)
	}
	return least
}

// partsWithin returns the number of parts that come by beginning a part just where the one ahead would add up to more than a bound, which no entry exceeds.
func partsWithin(a []int, bound int) int {
	count, sum := 1, 0
	for _, x := range a {
		if sum+x > bound {
			count, sum = count+1, 0
		}
		sum += x
	}
	return count
}

// evenBound says again what SplitEven returns: the least bound within which no more than k parts are needed, for any of them may be split further.
func evenBound(a []int, k int) int {
	bound := slices.Max(a)
	for partsWithin(a, bound) > k {
		bound++
	}
	return bound
}

// drawnRows returns rows of 5 to rowMax entries from low to high.
func drawnRows(low int, high int) [][]int {
	var rows [][]int
	draw := draws(high - low)
	for n := 5; n <= rowMax; n++ {
		for range 3 {
			a := filled(n, 0)
			for i := range a {
				a[i] = low + draw(high-low+1)
			}
			rows = append(rows, a)
		}
	}
	return rows
}

// splitRows returns rows to be split: short ones, those of one entry and of rowMax entries, those at the limits, with negative entries, and with entries that are all 0.
func splitRows() [][]int {
	return slices.Concat(
		rowsOf(4, -1, 0, 2), rowsOf(5, 0, 1), rowsOf(3, -entryMax, 0, entryMax-1, entryMax), longRows(), unevenRows(),
		drawnRows(0, 3), drawnRows(-2, 2), drawnRows(0, 60), drawnRows(-9, 9), drawnRows(-9, -1), drawnRows(-entryMax, entryMax), drawnRows(0, entryMax),
	)
}

// plusRows returns rows with no negative entry.
func plusRows() [][]int {
	rows := slices.DeleteFunc(splitRows(), hasMinus)
	return append(rows, rowsOf(4, 0, 1, 3, 1000)...)
}

func hasMinus(a []int) bool {
	return slices.Min(a) < 0
}

// noCounts returns numbers of parts into which no row of n entries is split.
func noCounts(n int) []int {
	numbers := []int{0, -1, -2, -n, n + 1, n + 2, 2 * n, rowMax, rowMax + 1, 1<<32 + 1, 1<<32 + n, math.MinInt + 1, math.MinInt + n}
	return append(outside(), slices.DeleteFunc(numbers, func(k int) bool { return 1 <= k && k <= n })...)
}

// noPrices returns numbers that are not put to the cost of a split for each part.
func noPrices() []int {
	return append(beyond(partPriceMax), -1, -2, -partPriceMax, partPriceMax+2, 1<<32+1, -1<<32+1)
}

// noSplits returns lists that are no splits of a row of n entries: lists that do not ascend, do not end at the last place, or have a place that is none.
func noSplits(n int) [][]int {
	last := n - 1
	lists := [][]int{
		nil, {}, {n}, {-1}, {last, n}, {-1, last}, {last, last}, {0, 0, last}, {last, 0, last}, {0, last, last}, {last, -1}, {-1, -1, last}, {-2, -1, last}, {n, last},
		counted(n+1, -1, 1), counted(n+1, 0, 1), filled(100, last), counted(100, last-99, 1), counted(100, 0, 1),
	}
	if n > 1 {
		lists = append(lists, []int{0}, []int{last - 1}, counted(n-1, 0, 1), []int{last, 0}, []int{last, last - 1}, backwards(counted(n, 0, 1)))
	}
	if n > 2 {
		lists = append(lists, []int{1, 0, last}, []int{0, 1, 1, last}, []int{1, last, 0}, []int{0, last - 1})
	}
	for _, x := range append(outside(), 1<<32+last, -1<<32+last) {
		lists = append(lists, []int{x}, []int{x, last}, []int{last, x}, append(counted(n, 0, 1), x), append([]int{x}, counted(n, 0, 1)...))
	}
	return lists
}

// wantNumbers checks a list of numbers, which need be no row, against the one that is told.
func wantNumbers(t *testing.T, got []int, ok bool, want []int, call string, args ...any) {
	t.Helper()
	if !ok || !slices.Equal(got, want) {
		t.Fatalf("%s of %v returned %v, %t; want %v, true", call, args, got, ok, want)
	}
}
