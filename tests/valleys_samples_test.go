package tests

import "slices"

// backwards returns a list from its end to its beginning.
func backwards(a []int) []int {
	back := slices.Clone(a)
	slices.Reverse(back)
	return back
}

func sumOf(a []int) int {
	sum := 0
	for _, x := range a {
		sum += x
	}
	return sum
}

func distance(x int, y int) int {
	return max(x-y, y-x)
}

// hasValley says again when a row has one valley: up to some place no entry is greater than the one ahead of it, and from there on none is less.
func hasValley(a []int) bool {
	for i := range a {
		if slices.IsSorted(backwards(a[:i+1])) && slices.IsSorted(a[i:]) {
			return true
		}
	}
	return false
}

// valleyCostOf says again what ValleyCost returns, by asking for each whole entry what it costs to end there, with rows that never rise, and with all that have one valley.
func valleyCostOf(a []int) int {
	falling, all := filled(2*entryMax+1, 0), filled(2*entryMax+1, 0)
	for _, x := range a {
		for v := 2*entryMax - 1; v >= 0; v-- {
			falling[v] = min(falling[v], falling[v+1])
		}
		for v := 1; v < len(all); v++ {
			all[v] = min(all[v], all[v-1])
		}
		for v := range all {
			falling[v] += distance(x, v-entryMax)
			all[v] = min(falling[v], all[v]+distance(x, v-entryMax))
		}
	}
	return slices.Min(all)
}

// valleyCostTried says again what ValleyCost returns, by trying the given rows with one valley.
func valleyCostTried(a []int, valleys [][]int) int {
	least := 1 << 40
	for _, b := range valleys {
		if len(a) != len(b) {
			continue
		}
		cost := 0
		for i, x := range a {
			cost += distance(x, b[i])
		}
		least = min(least, cost)
	}
	return least
}

func isHill(a []int) bool {
	return isRow(a) && slices.Min(a) >= 0
}

// isRound says again when a hill is round: the product of two entries, or of one with itself, is nowhere less than that of the next ones outside of both.
// If a 0 stands between two entries that are not 0, the product at the outer zeros is less than that of these.
func isRound(a []int) bool {
	for i := 1; i < len(a); i++ {
		for k := i; k+1 < len(a); k++ {
			if a[i]*a[k] < a[i-1]*a[k+1] {
				return false
			}
		}
	}
	return true
}

// foldedOf says again which list comes by folding two hills; it may be no row.
func foldedOf(a []int, b []int) []int {
	folded := filled(len(a)+len(b)-1, 0)
	for k := range folded {
		for i := range a {
			if k-i >= 0 && k-i < len(b) {
				folded[k] += a[i] * b[k-i]
			}
		}
	}
	return folded
}

// raisedOf says again what HillRaise returns, by sums of binomial numbers beside each other; it may be no row.
func raisedOf(a []int) []int {
	numbers := []int{1}
	for range len(a) - 1 {
		next := filled(len(numbers)+1, 1)
		for i := 1; i < len(numbers); i++ {
			next[i] = numbers[i-1] + numbers[i]
		}
		numbers = next
	}
	return pairwise(a, numbers, func(x int, y int) int { return x * y })
}

// topOf says again where the greatest entry of a hill stands first and last.
func topOf(a []int) (int, int) {
	return slices.Index(a, slices.Max(a)), len(a) - 1 - slices.Index(backwards(a), slices.Max(a))
}

// flatRows returns rows with one valley and equal entries beside each other: ahead of the least entry, behind it, at it, and all of these.
func flatRows() [][]int {
	return [][]int{
		{5, 5, 1, 2}, {9, 5, 5, 1, 2}, {5, 5, 5, 1}, {9, 9, 4, 4, 1},
		{5, 1, 2, 2}, {1, 2, 2, 2}, {5, 1, 2, 2, 9}, {1, 4, 4, 9, 9},
		{5, 1, 1, 2}, {5, 1, 1, 1}, {1, 1, 1, 2}, {3, 1, 1, 2},
		{5, 5, 1, 1, 2, 2}, {9, 9, 9, 3, 3, 3, 3, 7, 7, 7, 8, 8},
		{1000, 1000, -1000, -1000, 1000, 1000}, {-1000, -1000, 1000, 1000}, {1000, 1000, -1000, -1000},
	}
}

// valleyRows returns rows to be taken one by one, with one valley and with more.
func valleyRows() [][]int {
	rows := slices.Concat(manyRows(), flatRows(), rowsOf(6, 0, 1, 2))
	for _, x := range []int{-1000, -1, 0, 7, 1000} {
		rows = append(rows, []int{x}, filled(2, x), filled(rowMax, x))
	}
	return append(rows, counted(rowMax, 1000, -180), counted(rowMax, -1000, 180), counted(rowMax-1, 4, -1), []int{1, 0, 1, 0, 1})
}

// valleys returns the ones of these that have one valley.
func valleys() [][]int {
	return slices.DeleteFunc(valleyRows(), func(a []int) bool { return !hasValley(a) })
}

// longHills returns hills that are round and others, with 0 ahead, behind and between.
func longHills() [][]int {
	return [][]int{
		filled(rowMax, 0), filled(rowMax, 1), filled(rowMax, 1000), filled(6, 3), filled(7, 3), counted(rowMax, 0, 1), counted(rowMax, 90, -8),
		{1, 11, 55, 165, 330, 462, 462, 330, 165, 55, 11, 1},
		{0, 0, 1, 5, 10, 10, 5, 1, 0, 0},
		{0, 0, 0, 0, 0, 0, 0, 0, 0, 0, 0, 1000},
		{1000, 0, 0, 0, 0, 0, 0, 0, 0, 0, 0, 1000},
		{1, 2, 4, 8, 16, 32, 64, 128, 256, 512},
		{1000, 999, 998, 0, 0, 3}, {0, 4, 0, 0, 9, 0}, {5, 5, 0, 5, 5}, {9, 9, 8, 6, 3, 0, 0},
		{1, 2, 4, 8, 16, 33}, {3, 1, 3, 1, 3, 1}, {0, 0, 7, 9, 7, 9, 0, 0}, {0, 1000, 1000, 1000, 0},
	}
}

// hills returns hills to be taken one by one.
func hills() [][]int {
	return slices.Concat(rowsOf(5, 0, 1, 2, 4), rowsOf(4, 0, 1, 31, 32, 999, 1000), longHills())
}

// fewHills returns hills to be taken in pairs.
func fewHills() [][]int {
	return slices.Concat(rowsOf(4, 0, 1, 3), rowsOf(2, 0, 1, 2, 22, 31, 32, 500, 1000), longHills())
}

// noHills returns rows with a negative entry, at each place in turn.
func noHills() [][]int {
	var rows [][]int
	for _, n := range []int{1, 2, 3, rowMax} {
		for i := range n {
			for _, x := range []int{-1, -2, -entryMax} {
				for _, y := range []int{0, 1, 2, -1} {
					a := filled(n, y)
					a[i] = x
					rows = append(rows, a)
				}
			}
		}
	}
	return rows
}
