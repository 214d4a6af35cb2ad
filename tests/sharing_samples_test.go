package tests

import (
	"slices"
	"testing"
)

const (
	sharersMax = 4
	priceMax   = 3000
)

// mostOf returns the greatest amount that there is a sharing of among rows.
func mostOf(rows [][]int) int {
	return len(slices.Concat(rows...)) - len(rows)
}

// allPlaces returns all lists of one place of each row, in ascending order.
func allPlaces(rows [][]int) [][]int {
	all := [][]int{{}}
	for _, a := range rows {
		var longer [][]int
		for _, list := range all {
			for place := range a {
				longer = append(longer, append(slices.Clone(list), place))
			}
		}
		all = longer
	}
	return all
}

// sharingsOf returns, for each amount, all sharings of it, in ascending order.
func sharingsOf(rows [][]int) [][][]int {
	byAmount := make([][][]int, mostOf(rows)+1)
	for _, list := range allPlaces(rows) {
		n := sumOf(list)
		byAmount[n] = append(byAmount[n], list)
	}
	return byAmount
}

func sharingCost(rows [][]int, list []int) int {
	cost := 0
	for i, place := range list {
		cost += rows[i][place]
	}
	return cost
}

// cheapestOf returns those of some sharings, which are in ascending order, that cost least.
func cheapestOf(rows [][]int, sharings [][]int) [][]int {
	var least [][]int
	for _, list := range sharings {
		if len(least) > 0 && sharingCost(rows, list) < sharingCost(rows, least[0]) {
			least = nil
		}
		if len(least) == 0 || sharingCost(rows, list) == sharingCost(rows, least[0]) {
			least = append(least, list)
		}
	}
	return least
}

// costsOf says again what the least costs of all amounts are, by merging row after row; they may be no row.
func costsOf(rows [][]int) []int {
	costs := []int{0}
	for _, a := range rows {
		costs = mergedOf(costs, a)
	}
	return costs
}

// greedyOf says again what ShareGreedy returns for bent rows, step by step.
func greedyOf(rows [][]int, n int) []int {
	list := filled(len(rows), 0)
	for range n {
		best, slope := -1, 1<<40
		for i, place := range list {
			if place+1 < len(rows[i]) && rows[i][place+1]-rows[i][place] < slope {
				best, slope = i, rows[i][place+1]-rows[i][place]
			}
		}
		list[best]++
	}
	return list
}

// isPrice says again when a whole number is a price of a sharing.
func isPrice(rows [][]int, list []int, price int) bool {
	for i, place := range list {
		if place > 0 && price < rows[i][place]-rows[i][place-1] {
			return false
		}
		if place < len(rows[i])-1 && price > rows[i][place+1]-rows[i][place] {
			return false
		}
	}
	return true
}

// pricesOf says again which prices from -priceMax to priceMax are the least and the greatest one, and whether there is one, by trying all.
func pricesOf(rows [][]int, list []int) (int, int, bool) {
	var prices []int
	for price := -priceMax; price <= priceMax; price++ {
		if isPrice(rows, list, price) {
			prices = append(prices, price)
		}
	}
	if len(prices) == 0 {
		return 0, 0, false
	}
	return prices[0], prices[len(prices)-1], true
}

// movesOf says again how many moves of a sharing make its cost less, by making all of them.
func movesOf(rows [][]int, list []int) int {
	moves := 0
	for i := range list {
		for k := range list {
			moved := slices.Clone(list)
			moved[i]--
			moved[k]++
			if i != k && moved[i] >= 0 && moved[k] < len(rows[k]) && sharingCost(rows, moved) < sharingCost(rows, list) {
				moves++
			}
		}
	}
	return moves
}

// areBent says again whether all rows are bent.
func areBent(rows [][]int) bool {
	return !slices.ContainsFunc(rows, func(a []int) bool { return !isBent(a) })
}

// smallGroups returns one to four short rows each.
func smallGroups() [][][]int {
	var groups [][][]int
	for _, a := range rowsOf(4, -1, 0, 2) {
		groups = append(groups, [][]int{a})
	}
	pairs := append(rowsOf(3, 0, 1, 3), []int{5, 0, 5, 0}, []int{0, 1, 2, 3}, []int{9, 4, 1, 0, 1, 4})
	for _, a := range pairs {
		for _, b := range pairs {
			groups = append(groups, [][]int{a, b})
		}
	}
	rows := [][]int{{0}, {-3}, {0, 1}, {1, 0}, {0, 1, 4}, {4, 1, 0}, {0, 2, 1}, {2, 2, 2}}
	for _, a := range rows {
		for _, b := range rows {
			for _, c := range rows {
				groups = append(groups, [][]int{a, b, c}, [][]int{a, b, c, a}, [][]int{b, {0, 0, 1}, a, c})
			}
		}
	}
	return groups
}

// limitGroups returns rows at the limits: entries of -entryMax and entryMax, rows of one entry and of rowMax, one row and sharersMax of them.
func limitGroups() [][][]int {
	high, low := []int{entryMax}, []int{-entryMax}
	up, down := []int{-entryMax, entryMax}, []int{entryMax, -entryMax}
	return [][][]int{
		{{0}}, {high}, {low}, {up}, {down},
		{high, high}, {low, low}, {high, low}, {{entryMax}, {1}}, {{-entryMax}, {-1}}, {{entryMax - 1}, {1}}, {{500}, {500}}, {{501}, {500}}, {{-501}, {-500}},
		// On the way from row to row there are costs beyond entryMax, but the last ones are not.
		{high, high, low}, {low, low, high}, {high, high, low, low}, {{1000, 999}, {1, 0}, {-1, -1}}, {low, {-1}, {1}, {0, 0}},
		// Only the first cost, the last one, or one between is beyond entryMax.
		{{1000, 0}, {1, 0}}, {{0, 1000}, {0, 1}}, {{0, 1000, 0}, {1}}, {{0, -1000, 0}, {-1}}, {{0, -1000}, {0, -1}}, {{-1000, 0}, {-1, 0}},
		// The greatest sum is beyond entryMax, but not the least one of its amount.
		{{0, 1000, 0}, {0, 1000, 0}}, {{5, 1000}, {5, 1000, 0}},
		{up, up}, {down, down}, {up, down}, {up, up, up, up}, {down, down, down, down}, {up, down, up, down},
		{high, high, high, high}, {low, low, low, low}, {{0}, {0}, {0}, {0}}, {{1}, {2}, {3}, {4}},
		{{1000, -1000, 1000}, {-1000, 1000, -1000}}, {{1000, -1000, 1000}, {1000, -1000, 1000}, {0}, {7, 7}},
		{filled(rowMax, 0)}, {filled(rowMax, entryMax)}, {filled(rowMax, -entryMax)}, {counted(rowMax, -5, 1)}, {counted(rowMax, 1000, -181)},
		{filled(rowMax, 3), {4}}, {{4}, filled(rowMax, 3), {5}}, {filled(rowMax, 3), {4, 5}}, {{4, 5}, filled(rowMax-1, 3)}, {filled(rowMax-1, 3), {4, 5}, {6}}, {filled(rowMax-1, 3), {4, 5}, {6, 7}},
		{counted(4, 0, 1), counted(4, 0, 1), counted(4, 0, 1), counted(3, 0, 1)}, {counted(4, 0, 1), counted(4, 0, 1), counted(4, 0, 1), counted(4, 0, 1)},
		{counted(6, 0, 1), counted(7, 0, 2)}, {counted(7, 0, 1), counted(7, 0, 2)}, {{1000, 0, 0, 0}, {0, 0, 0, -1000}, {3}, {0, -1, 0, 1}},
	}
}

// bentGroups returns bent rows, with equal slopes in several of them, too.
func bentGroups() [][][]int {
	groups := slices.DeleteFunc(slices.Concat(smallGroups(), limitGroups(), longGroups()), func(rows [][]int) bool { return !areBent(rows) })
	rows := [][]int{{0, 1, 2, 3}, {7, 7, 8}, {5, 4, 4, 5}, {0, -3, -3, -3}, {0, 1, 4}, {2, 3}, {6}, {3, 1, 0, 0, 1, 3}}
	for _, a := range rows {
		for _, b := range rows {
			groups = append(groups, [][]int{a, b}, [][]int{a, a, b, b}, [][]int{b, a, b})
		}
	}
	return groups
}

// longGroups returns long rows, also some that are not bent.
func longGroups() [][][]int {
	var groups [][][]int
	rows := longRows()
	for i, a := range rows {
		b := rows[(i+5)%len(rows)]
		groups = append(groups, [][]int{a}, [][]int{a, b}, [][]int{b, a}, [][]int{{3, 0, 5}, a, {1, 1}})
	}
	squares := []int{0, 1, 4, 9, 16, 25, 36, 49, 64, 81, 100, 121}
	return append(groups,
		[][]int{squares, squares, squares, squares},
		[][]int{filled(rowMax, 1), filled(rowMax, 2), filled(rowMax, 2), filled(rowMax, 1)},
		[][]int{rows[4], rows[8], rows[15], rows[19]},
		[][]int{counted(rowMax, 1000, -150), squares, backwards(squares), counted(rowMax, -1000, 181)},
	)
}

// shareGroups returns rows among which amounts are shared.
func shareGroups() [][][]int {
	return slices.Concat(smallGroups(), limitGroups(), longGroups())
}

// pricedSharing is a sharing with its least and its greatest price.
type pricedSharing struct {
	rows      [][]int
	list      []int
	low, high int
}

// pricedSharings returns sharings that have a price, of rows that are bent and of others.
func pricedSharings() []pricedSharing {
	return []pricedSharing{
		{[][]int{{0, 1, 4}, {0, 2}}, []int{1, 1}, 2, 3},
		{[][]int{{0, 1, 4}}, []int{1}, 1, 3},
		// No slope leads to a place, none leads from one, or neither.
		{[][]int{{0, 1, 4}, {0, 2}}, []int{0, 0}, -3000, 1},
		{[][]int{{0, 1, 4}, {0, 2}}, []int{2, 1}, 3, 3000},
		{slices.Repeat([][]int{squares()}, 4), []int{0, 0, 0, 0}, -3000, 1},
		{slices.Repeat([][]int{squares()}, 4), []int{11, 11, 11, 11}, 21, 3000},
		{[][]int{{7}}, []int{0}, -3000, 3000},
		{[][]int{{7}, {-1000}, {1000}, {0}}, []int{0, 0, 0, 0}, -3000, 3000},
		{[][]int{{7}, {0, 1, 4}}, []int{0, 1}, 1, 3},
		{[][]int{{-1000, 1000}}, []int{0}, -3000, 2000},
		{[][]int{{-1000, 1000}}, []int{1}, 2000, 3000},
		{[][]int{{1000, -1000}}, []int{0}, -3000, -2000},
		{[][]int{{1000, -1000}}, []int{1}, -2000, 3000},
		{[][]int{{1000, -1000, 1000}}, []int{1}, -2000, 2000},
		// One price only, at each side of 0.
		{[][]int{{0, 1, 2}}, []int{1}, 1, 1},
		{[][]int{{0, -4, -8}}, []int{1}, -4, -4},
		{[][]int{{0, 5}, {0, 5}}, []int{1, 0}, 5, 5},
		{[][]int{{0, 5}, {0, 5}}, []int{0, 1}, 5, 5},
		{[][]int{{0, 0}, {0, 0}}, []int{0, 1}, 0, 0},
		{[][]int{{1000, -1000}, {1000, -1000}}, []int{0, 1}, -2000, -2000},
		// The bounds come from different rows.
		{[][]int{{0, 1, 9}, {0, 3, 5}, {0, 2, 20}}, []int{1, 0, 1}, 2, 3},
		{[][]int{{9, 4, 1, 0}, {0, 1}, {5, 0, 0}, {8}}, []int{2, 0, 1, 0}, -3, -1},
		// Rows that are not bent, at places where only the slopes beside them count.
		{[][]int{{0, 1, 9, 10}}, []int{1}, 1, 8},
		{[][]int{{0, 1, 9, 10}}, []int{3}, 1, 3000},
		{[][]int{{9, 0, 9, 0}}, []int{1}, -9, 9},
	}
}

// pricelessSharings returns sharings that have no price, though they are sharings.
func pricelessSharings() []shareArgs {
	return []shareArgs{
		{[][]int{{0, 1, 4}, {0, 2}}, []int{2, 0}},
		{[][]int{{0, 1}, {0, 0}}, []int{1, 0}},
		{[][]int{{0, 0}, {0, 1}}, []int{0, 1}},
		{[][]int{{0, 1, 1}}, []int{1}},
		{[][]int{{-1000, 1000, -1000}}, []int{1}},
		{[][]int{{-1000, 1000}, {1000, -1000}}, []int{1, 0}},
		{[][]int{{0, 1, 4}, {3}, {0, 2, 1}, {3}}, []int{0, 0, 1, 0}},
		{[][]int{{9, 0, 9, 0}}, []int{2}},
		{[][]int{{0, 5, 6, 20}, {0, 9}}, []int{3, 0}},
	}
}

// noSharers returns lists that are not the rows of a sharing: none, too many, and one that is no row, at each place in turn.
func noSharers() [][][]int {
	groups := [][][]int{nil, {}, {nil}, {{}}, {{}, {}}, steady(sharersMax+1, 1, 0), steady(sharersMax+1, 2, 1), steady(6, 3, 0), steady(100, 1, 0), slices.Repeat([][]int{nil}, 100)}
	for n := 1; n <= sharersMax; n++ {
		for i := range n {
			for _, bad := range noRows() {
				rows := slices.Repeat([][]int{{0, 0}}, n)
				rows[i] = bad
				groups = append(groups, rows)
			}
		}
	}
	return groups
}

// noAmountsOf returns numbers of which there is no sharing among rows.
func noAmountsOf(rows [][]int) []int {
	most := mostOf(rows)
	numbers := []int{-1, -2, -most - 1, most + 1, most + 2, 2*most + 1, entryMax, -entryMax}
	return append(numbers, outside()...)
}

// noPlacesOf returns lists that are no sharings: with too few or too many places, and with one, at each place in turn, that is none of its row.
func noPlacesOf(rows [][]int) [][]int {
	n := len(rows)
	lists := [][]int{filled(n-1, 0), filled(n+1, 0), filled(n+2, 0), filled(100, 0), filled(n, -1), filled(n, rowMax), filled(n, 1<<62), filled(n, -1<<63)}
	if n > 1 {
		lists = append(lists, nil)
	}
	for i, a := range rows {
		for _, x := range append(outside(), -1, -2, len(a), len(a)+1, rowMax, -rowMax) {
			list := filled(n, 0)
			list[i] = x
			lists = append(lists, list)
		}
	}
	return lists
}

// wantTwo checks two numbers against those that are told.
func wantTwo(t *testing.T, first int, second int, ok bool, wantFirst int, wantSecond int, wantOk bool, call string, args ...any) {
	t.Helper()
	if first != wantFirst || second != wantSecond || ok != wantOk {
		t.Fatalf("%s of %v returned %d, %d, %t; want %d, %d, %t", call, args, first, second, ok, wantFirst, wantSecond, wantOk)
	}
}
