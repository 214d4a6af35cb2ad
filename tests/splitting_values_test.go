package tests

import (
	"slices"
	"testing"

	"loop.example/bentrows/impl"
)

func wantSplitCost(t *testing.T, a []int, letter string, split []int, want int) {
	t.Helper()
	got, ok := impl.SplitCost(a, letter, split)
	wantNumber(t, got, ok, want, true, "SplitCost", a, letter, split)
}

func wantSplitLeast(t *testing.T, a []int, letter string, k int, want int) {
	t.Helper()
	got, ok := impl.SplitLeast(a, letter, k)
	wantNumber(t, got, ok, want, true, "SplitLeast", a, letter, k)
}

func wantSplitFirst(t *testing.T, a []int, letter string, k int, want []int) {
	t.Helper()
	got, ok := impl.SplitFirst(a, letter, k)
	wantNumbers(t, got, ok, want, "SplitFirst", a, letter, k)
}

func wantSplitCosts(t *testing.T, a []int, letter string, want []int) {
	t.Helper()
	got, ok := impl.SplitCosts(a, letter)
	wantNumbers(t, got, ok, want, "SplitCosts", a, letter)
}

func wantSplitAny(t *testing.T, a []int, letter string, p int, want int, wantCount int) {
	t.Helper()
	cost, count, ok := impl.SplitAny(a, letter, p)
	wantTwo(t, cost, count, ok, want, wantCount, true, "SplitAny", a, letter, p)
}

func wantSplitMany(t *testing.T, a []int, k int, want int) {
	t.Helper()
	got, ok := impl.SplitMany(a, k)
	wantNumber(t, got, ok, want, true, "SplitMany", a, k)
}

func wantSplitEven(t *testing.T, a []int, k int, want int) {
	t.Helper()
	got, ok := impl.SplitEven(a, k)
	wantNumber(t, got, ok, want, true, "SplitEven", a, k)
}

func TestSplitCost(t *testing.T) {
	for _, a := range splitRows() {
		for _, split := range slices.Concat(splitsOf(len(a))...) {
			for _, letter := range letters() {
				wantSplitCost(t, a, letter, split, splitCost(a, letter, split))
			}
		}
	}
	for _, c := range []struct {
		row, split   []int
		wide, square int
	}{
		{[]int{1, 5, 6}, []int{0, 2}, 1, 122},
		{[]int{1, 5, 6}, []int{1, 2}, 4, 72},
		// One part, and as many as entries.
		{[]int{1, 5, 6}, []int{2}, 5, 144},
		{[]int{1, 5, 6}, []int{0, 1, 2}, 0, 62},
		{[]int{7}, []int{0}, 0, 49},
		{[]int{-7}, []int{0}, 0, 49},
		{[]int{0}, []int{0}, 0, 0},
		{[]int{3, -3}, []int{1}, 6, 0},
		{[]int{3, -3}, []int{0, 1}, 0, 18},
		{[]int{-4, -1, -6}, []int{0, 2}, 5, 65},
		// The greatest entry and the least one stand in any order, at the ends of a part or between.
		{[]int{5, 1, 9, 4}, []int{3}, 8, 361},
		{[]int{9, 4, 5, 1}, []int{3}, 8, 361},
		{[]int{4, 9, 1, 5}, []int{1, 3}, 9, 205},
		{[]int{1000, -1000}, []int{1}, 2000, 0},
		{[]int{-1000, 1000}, []int{0, 1}, 0, 2000000},
		{filled(rowMax, 1000), []int{11}, 0, 144000000},
		{filled(rowMax, -1000), []int{11}, 0, 144000000},
		{filled(rowMax, -1000), counted(rowMax, 0, 1), 0, 12000000},
		{filled(rowMax, 0), []int{3, 4, 11}, 0, 0},
		{slices.Repeat([]int{1000, -1000}, 6), []int{1, 3, 5, 7, 9, 11}, 12000, 0},
		{slices.Repeat([]int{1000, -1000}, 6), []int{0, 2, 4, 6, 8, 10, 11}, 10000, 2000000},
		{counted(rowMax, 0, 1), []int{0, 10, 11}, 9, 3146},
	} {
		wantSplitCost(t, c.row, "w", c.split, c.wide)
		wantSplitCost(t, c.row, "s", c.split, c.square)
	}
}

// TestSplitCostOfLists takes all short lists as splits: just those that are some succeed.
func TestSplitCostOfLists(t *testing.T) {
	splits, others := 0, 0
	for n := 1; n <= 4; n++ {
		a := counted(n, 3, 5)
		all := slices.Concat(splitsOf(n)...)
		for _, list := range rowsOf(n+1, counted(n+2, -1, 1)...) {
			for _, letter := range letters() {
				if slices.ContainsFunc(all, func(split []int) bool { return slices.Equal(split, list) }) {
					wantSplitCost(t, a, letter, list, splitCost(a, letter, list))
					splits++
				} else {
					wantNoSplit(t, a, letter, list)
					others++
				}
			}
		}
	}
	if splits != 2*(1+2+4+8) || others < 10000 {
		t.Fatalf("%d lists were splits, and %d were none", splits, others)
	}
}

func wantNoSplit(t *testing.T, a []int, letter string, list []int) {
	t.Helper()
	got, ok := impl.SplitCost(a, letter, list)
	wantNumber(t, got, ok, 0, false, "SplitCost", a, letter, list)
}

func TestSplitCostFails(t *testing.T) {
	for n := 1; n <= rowMax; n++ {
		for _, a := range [][]int{filled(n, 0), filled(n, -entryMax), counted(n, 1, 3)} {
			for _, list := range noSplits(n) {
				for _, letter := range append(letters(), "", "x") {
					wantNoSplit(t, a, letter, list)
				}
			}
			for _, letter := range noLetters() {
				wantNoSplit(t, a, letter, []int{n - 1})
				wantNoSplit(t, a, letter, counted(n, 0, 1))
				wantNoSplit(t, a, letter, nil)
			}
		}
	}
	for _, a := range noRows() {
		last := len(a) - 1
		for _, list := range [][]int{nil, {last}, {0}, {0, last}, {0, 0}, counted(len(a), 0, 1), {0, 1, 2}} {
			for _, letter := range append(letters(), "", "ws") {
				wantNoSplit(t, a, letter, list)
			}
		}
	}
}

// TestSplitLeast checks SplitLeast, SplitFirst and SplitCosts.
func TestSplitLeast(t *testing.T) {
	one, several := 0, 0
	for _, a := range splitRows() {
		splits := splitsOf(len(a))
		for _, letter := range letters() {
			var costs []int
			for k := 1; k <= len(a); k++ {
				cost, firsts := leastOfSplits(a, letter, splits[k])
				costs = append(costs, cost)
				wantSplitLeast(t, a, letter, k, cost)
				wantSplitFirst(t, a, letter, k, firsts[0])
				if len(firsts) > 1 {
					several++
				} else {
					one++
				}
			}
			wantSplitCosts(t, a, letter, costs)
		}
	}
	if one < 2000 || several < 2000 {
		t.Fatalf("one split had the least cost %d times, and several had it %d times", one, several)
	}
}

func TestSplitFirst(t *testing.T) {
	for _, c := range []struct {
		row    []int
		letter string
		k      int
		cost   int
		want   []int
	}{
		{[]int{1, 5, 6}, "w", 1, 5, []int{2}},
		{[]int{1, 5, 6}, "w", 2, 1, []int{0, 2}},
		{[]int{1, 5, 6}, "w", 3, 0, []int{0, 1, 2}},
		{[]int{1, 5, 6}, "s", 1, 144, []int{2}},
		{[]int{1, 5, 6}, "s", 2, 72, []int{1, 2}},
		{[]int{1, 5, 6}, "s", 3, 62, []int{0, 1, 2}},
		{[]int{7}, "w", 1, 0, []int{0}},
		{[]int{7}, "s", 1, 49, []int{0}},
		{[]int{-1000}, "s", 1, 1000000, []int{0}},
		// Several splits of the least cost: the first one, as lists are compared.
		{[]int{0, 0, 0, 0}, "w", 2, 0, []int{0, 3}},
		{[]int{0, 0, 0, 0}, "s", 3, 0, []int{0, 1, 3}},
		{[]int{0, 1, 2}, "w", 2, 1, []int{0, 2}},
		{[]int{2, 1, 0}, "w", 2, 1, []int{0, 2}},
		{[]int{0, 0, 5, 5}, "w", 3, 0, []int{0, 1, 3}},
		{[]int{0, 5, 5, 5, 0}, "w", 4, 0, []int{0, 1, 3, 4}},
		{[]int{1, 1, 1}, "s", 2, 5, []int{0, 2}},
		{[]int{2, 2, 2, 2, 2}, "s", 3, 36, []int{0, 2, 4}},
		{[]int{1, 0, 1}, "s", 2, 2, []int{0, 2}},
		{[]int{1, -1, 1, -1}, "s", 2, 0, []int{1, 3}},
		{[]int{1, -1, 1, -1}, "s", 1, 0, []int{3}},
		{[]int{1, -1, 1, -1}, "s", 3, 2, []int{0, 1, 3}},
		{[]int{0, 4, 0, 4, 0}, "w", 2, 4, []int{0, 4}},
		{[]int{0, 4, 0, 4, 0}, "w", 3, 4, []int{0, 1, 4}},
		{[]int{3, 3, 9, 9, 3, 3}, "w", 3, 0, []int{1, 3, 5}},
		{filled(rowMax, 0), "s", 6, 0, []int{0, 1, 2, 3, 4, 11}},
		{filled(rowMax, 0), "w", 11, 0, []int{0, 1, 2, 3, 4, 5, 6, 7, 8, 9, 11}},
		{filled(rowMax, 1000), "w", 12, 0, counted(rowMax, 0, 1)},
		{filled(rowMax, 1000), "s", 1, 144000000, []int{11}},
		{filled(rowMax, 1000), "s", 4, 36000000, []int{2, 5, 8, 11}},
		{filled(rowMax, -1000), "s", 5, 30000000, []int{1, 3, 5, 8, 11}},
		{slices.Repeat([]int{1000, -1000}, 6), "w", 11, 2000, []int{0, 1, 2, 3, 4, 5, 6, 7, 8, 9, 11}},
		{slices.Repeat([]int{1000, -1000}, 6), "s", 2, 0, []int{1, 11}},
		// The least split into more parts has not the places of the least one into fewer.
		{[]int{0, 3, 6, 10, 13}, "w", 2, 9, []int{2, 4}},
		{[]int{0, 3, 6, 10, 13}, "w", 3, 6, []int{0, 2, 4}},
		{filled(6, 1), "s", 2, 18, []int{2, 5}},
		{filled(6, 1), "s", 3, 12, []int{1, 3, 5}},
	} {
		wantSplitFirst(t, c.row, c.letter, c.k, c.want)
		wantSplitLeast(t, c.row, c.letter, c.k, c.cost)
	}
}

func TestSplitCosts(t *testing.T) {
	for _, c := range []struct {
		row          []int
		wide, square []int
	}{
		{[]int{1, 5, 6}, []int{5, 1, 0}, []int{144, 72, 62}},
		{[]int{7}, []int{0}, []int{49}},
		{[]int{-7}, []int{0}, []int{49}},
		{[]int{0}, []int{0}, []int{0}},
		{[]int{1000, -1000}, []int{2000, 0}, []int{0, 2000000}},
		// Costs of squares may grow again where entries are negative.
		{[]int{2, -1, -1}, []int{3, 0, 0}, []int{0, 2, 6}},
		{filled(rowMax, 0), filled(rowMax, 0), filled(rowMax, 0)},
		{counted(rowMax, 0, 1), counted(rowMax, 11, -1), []int{4356, 2196, 1458, 1124, 904, 748, 636, 568, 528, 510, 506, 506}},
	} {
		wantSplitCosts(t, c.row, "w", c.wide)
		wantSplitCosts(t, c.row, "s", c.square)
	}
}

func wantNoLeast(t *testing.T, a []int, letter string, k int) {
	t.Helper()
	least, ok := impl.SplitLeast(a, letter, k)
	wantNumber(t, least, ok, 0, false, "SplitLeast", a, letter, k)
	first, ok := impl.SplitFirst(a, letter, k)
	wantNone(t, first, ok, "SplitFirst", a, letter, k)
}

func wantNoCosts(t *testing.T, a []int, letter string) {
	t.Helper()
	costs, ok := impl.SplitCosts(a, letter)
	wantNone(t, costs, ok, "SplitCosts", a, letter)
}

func wantNoAny(t *testing.T, a []int, letter string, p int) {
	t.Helper()
	cost, count, ok := impl.SplitAny(a, letter, p)
	wantTwo(t, cost, count, ok, 0, 0, false, "SplitAny", a, letter, p)
}

// TestNoCounts asks for numbers of parts that there are no splits into, beginning with none and with one more than there are entries.
func TestNoCounts(t *testing.T) {
	for n := 1; n <= rowMax; n++ {
		for _, a := range [][]int{filled(n, 0), filled(n, entryMax), counted(n, 4, 2)} {
			for _, k := range noCounts(n) {
				for _, letter := range append(letters(), "") {
					wantNoLeast(t, a, letter, k)
				}
				many, ok := impl.SplitMany(a, k)
				wantNumber(t, many, ok, 0, false, "SplitMany", a, k)
				even, ok := impl.SplitEven(a, k)
				wantNumber(t, even, ok, 0, false, "SplitEven", a, k)
			}
		}
	}
}

func TestNoLetters(t *testing.T) {
	for _, a := range slices.Concat(longRows(), rowsOf(2, -1, 0, 1)) {
		for _, letter := range noLetters() {
			for k := 1; k <= len(a); k++ {
				wantNoLeast(t, a, letter, k)
			}
			wantNoCosts(t, a, letter)
			for _, p := range []int{0, 1, partPriceMax, -1, partPriceMax + 1} {
				wantNoAny(t, a, letter, p)
			}
		}
	}
}

func TestSplitsOfNoRows(t *testing.T) {
	for _, a := range noRows() {
		for _, letter := range append(letters(), "", "sw") {
			wantNoCosts(t, a, letter)
			for _, p := range []int{0, 7, partPriceMax, -1} {
				wantNoAny(t, a, letter, p)
			}
			for _, k := range []int{0, 1, 2, len(a) - 1, len(a), len(a) + 1, rowMax} {
				wantNoLeast(t, a, letter, k)
			}
		}
		for _, k := range []int{0, 1, 2, len(a) - 1, len(a), len(a) + 1, rowMax} {
			many, ok := impl.SplitMany(a, k)
			wantNumber(t, many, ok, 0, false, "SplitMany", a, k)
			even, ok := impl.SplitEven(a, k)
			wantNumber(t, even, ok, 0, false, "SplitEven", a, k)
		}
	}
}

// somePrices returns numbers that are put to each part, those among them for which two numbers of parts beside each other cost the same.
func somePrices(costs []int) []int {
	prices := []int{0, 1, 2, 9, 100, partPriceMax - 1, partPriceMax}
	for i := range len(costs) - 1 {
		if p := costs[i] - costs[i+1]; p > 0 && p < partPriceMax {
			prices = append(prices, p-1, p, p+1)
		}
	}
	slices.Sort(prices)
	return slices.Compact(prices)
}

func TestSplitAny(t *testing.T) {
	one, several := 0, 0
	for _, a := range splitRows() {
		for _, letter := range letters() {
			costs := leastCosts(a, letter)
			for _, p := range somePrices(costs) {
				want, counts := anyOf(costs, p)
				wantSplitAny(t, a, letter, p, want, counts[0])
				if len(counts) > 1 {
					several++
				} else {
					one++
				}
			}
		}
	}
	if one < 2000 || several < 1500 {
		t.Fatalf("one number of parts had the least cost %d times, and several had it %d times", one, several)
	}
	for _, c := range []struct {
		row    []int
		letter string
		p      int
		cost   int
		count  int
	}{
		{[]int{1, 5, 6}, "w", 2, 5, 2},
		{[]int{1, 5, 6}, "w", 0, 0, 3},
		{[]int{1, 5, 6}, "w", 5000, 5005, 1},
		{[]int{1, 5, 6}, "s", 0, 62, 3},
		{[]int{1, 5, 6}, "s", 11, 94, 2},
		{[]int{1, 5, 6}, "s", 71, 214, 2},
		{[]int{1, 5, 6}, "s", 73, 217, 1},
		// Several numbers of parts of the same cost: the least one.
		{[]int{1, 5, 6}, "w", 1, 3, 2},
		{[]int{1, 5, 6}, "w", 4, 9, 1},
		{[]int{1, 5, 6}, "s", 10, 92, 2},
		{[]int{1, 5, 6}, "s", 72, 216, 1},
		{[]int{3, 3, 3}, "w", 0, 0, 1},
		{[]int{0, 1, 2, 3}, "w", 1, 4, 1},
		{[]int{1, -1, 1, -1}, "s", 0, 0, 1},
		{filled(rowMax, 0), "w", 0, 0, 1},
		{filled(rowMax, 0), "s", 0, 0, 1},
		{filled(rowMax, 0), "s", 5000, 5000, 1},
		{[]int{7}, "w", 0, 0, 1},
		{[]int{7}, "w", 5000, 5000, 1},
		{[]int{-7}, "s", 5000, 5049, 1},
		{[]int{1000, -1000}, "s", 0, 0, 1},
		{[]int{1000, -1000}, "w", 2000, 4000, 1},
		{[]int{1000, -1000}, "w", 1999, 3998, 2},
		{filled(rowMax, 1000), "s", 5000, 12060000, 12},
		{slices.Repeat([]int{1000, -1000}, 6), "w", 0, 0, 12},
		{slices.Repeat([]int{1000, -1000}, 6), "w", 5000, 7000, 1},
		// Two parts cost no less than one, but three do.
		{[]int{0, 9, 0}, "w", 4, 12, 3},
		{[]int{0, 9, 0}, "w", 5, 14, 1},
	} {
		wantSplitAny(t, c.row, c.letter, c.p, c.cost, c.count)
	}
}

func TestSplitAnyFails(t *testing.T) {
	for _, a := range slices.Concat(longRows(), rowsOf(2, -1, 0, 1)) {
		for _, p := range noPrices() {
			for _, letter := range append(letters(), "", "w ") {
				wantNoAny(t, a, letter, p)
			}
		}
	}
}

func TestSplitMany(t *testing.T) {
	for _, a := range splitRows() {
		for k, splits := range splitsOf(len(a)) {
			if k > 0 {
				wantSplitMany(t, a, k, len(splits))
			}
		}
	}
	for i, want := range []int{1, 11, 55, 165, 330, 462, 462, 330, 165, 55, 11, 1} {
		wantSplitMany(t, filled(rowMax, 1000), i+1, want)
		wantSplitMany(t, counted(rowMax, 5, -1), i+1, want)
	}
	wantSplitMany(t, []int{-1000}, 1, 1)
	wantSplitMany(t, []int{4, 2, 7}, 2, 2)
}

func TestSplitEven(t *testing.T) {
	for _, a := range plusRows() {
		for k, splits := range splitsOf(len(a)) {
			if k > 0 {
				wantSplitEven(t, a, k, evenSplitOf(a, splits))
				wantSplitEven(t, a, k, evenBound(a, k))
			}
		}
	}
	for _, c := range []struct {
		row  []int
		k    int
		want int
	}{
		{[]int{1, 2, 3}, 1, 6},
		{[]int{1, 2, 3}, 2, 3},
		{[]int{1, 2, 3}, 3, 3},
		{[]int{3, 2, 1}, 2, 3},
		{[]int{2, 3, 2}, 2, 5},
		{[]int{7}, 1, 7},
		{[]int{0}, 1, 0},
		{[]int{0, 0, 0}, 2, 0},
		{[]int{0, 9, 0}, 2, 9},
		{[]int{1000}, 1, 1000},
		{[]int{1000, 1000}, 1, 2000},
		{[]int{1000, 1000}, 2, 1000},
		{filled(rowMax, 1000), 1, 12000},
		{filled(rowMax, 1000), 5, 3000},
		{filled(rowMax, 1000), 6, 2000},
		{filled(rowMax, 1000), 11, 2000},
		{filled(rowMax, 1000), 12, 1000},
		{filled(rowMax, 0), 7, 0},
		{counted(rowMax, 0, 1), 3, 24},
		{[]int{7, 2, 5, 10, 8}, 2, 18},
		{[]int{7, 2, 5, 10, 8}, 3, 14},
		{[]int{7, 2, 5, 10, 8}, 4, 10},
	} {
		wantSplitEven(t, c.row, c.k, c.want)
	}
}

// TestSplitEvenFails takes rows with a negative entry, at each place in turn.
func TestSplitEvenFails(t *testing.T) {
	rows := slices.DeleteFunc(splitRows(), func(a []int) bool { return !hasMinus(a) })
	for _, n := range []int{1, 2, 3, rowMax} {
		for i := range n {
			for _, x := range []int{-1, -2, -entryMax} {
				a := filled(n, 5)
				a[i] = x
				rows = append(rows, a)
			}
		}
	}
	for _, a := range rows {
		for k := 0; k <= len(a)+1; k++ {
			got, ok := impl.SplitEven(a, k)
			wantNumber(t, got, ok, 0, false, "SplitEven", a, k)
		}
	}
}
