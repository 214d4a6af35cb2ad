package tests

import (
	"slices"
	"testing"

	"loop.example/bentrows/impl"
)

func TestShareTry(t *testing.T) {
	for _, rows := range shareGroups() {
		costs := costsOf(rows)
		for n, sharings := range sharingsOf(rows) {
			wantTry(t, rows, n, costs[n], cheapestOf(rows, sharings)[0])
		}
	}
	for _, c := range []struct {
		rows [][]int
		n    int
		cost int
		list []int
	}{
		{[][]int{{0, 1, 4}, {0, 2}}, 2, 3, []int{1, 1}},
		{[][]int{{0, 1, 4}, {0, 2}}, 0, 0, []int{0, 0}},
		{[][]int{{0, 1, 4}, {0, 2}}, 3, 6, []int{2, 1}},
		{[][]int{{7}}, 0, 7, []int{0}},
		{[][]int{{7}, {-8}, {9}, {1}}, 0, 9, []int{0, 0, 0, 0}},
		{[][]int{{5, 9, 7}}, 1, 9, []int{1}},
		{[][]int{filled(rowMax, 6)}, 11, 6, []int{11}},
		// Costs are no entries, so that they may be greater.
		{slices.Repeat([][]int{{1000}}, 4), 0, 4000, []int{0, 0, 0, 0}},
		{slices.Repeat([][]int{{-1000}}, 4), 0, -4000, []int{0, 0, 0, 0}},
		{slices.Repeat([][]int{{1000, -1000}}, 4), 2, 0, []int{0, 0, 1, 1}},
		// Several sharings of the least cost: the first one, as lists are compared.
		{[][]int{{0, 0, 0}, {0, 0, 0}}, 2, 0, []int{0, 2}},
		{[][]int{{0, 1, 0}, {0, 1, 0}}, 2, 0, []int{0, 2}},
		{[][]int{{0, 0}, {0, 0}, {0, 0}, {0, 0}}, 2, 0, []int{0, 0, 1, 1}},
		{[][]int{{3, 0, 0, 3}, {0, 1, 0, 1}, {0, 1}}, 3, 0, []int{1, 2, 0}},
		// Rows that are not bent: going on by the least slope leads elsewhere.
		{[][]int{{0, 5, 0}, {0, 1, 9}}, 2, 0, []int{2, 0}},
		{[][]int{{0, 5, 6, -9}, {0, 1, 2, 3}}, 3, -9, []int{3, 0}},
		{slices.Repeat([][]int{filled(rowMax, 0)}, 4), 44, 0, []int{11, 11, 11, 11}},
		{slices.Repeat([][]int{filled(rowMax, 0)}, 4), 22, 0, []int{0, 0, 11, 11}},
	} {
		wantTry(t, c.rows, c.n, c.cost, c.list)
	}
}

func wantTry(t *testing.T, rows [][]int, n int, want int, wantSharing []int) {
	t.Helper()
	cost, list, ok := impl.ShareTry(rows, n)
	wantNumber(t, cost, ok, want, true, "ShareTry", rows, n)
	wantList(t, list, ok, wantSharing, "ShareTry", rows, n)
}

func TestShareGreedy(t *testing.T) {
	for _, rows := range bentGroups() {
		for n := range mostOf(rows) + 1 {
			list, ok := impl.ShareGreedy(rows, n)
			wantList(t, list, ok, greedyOf(rows, n), "ShareGreedy", rows, n)
		}
	}
	for _, c := range []struct {
		rows [][]int
		n    int
		want []int
	}{
		{[][]int{{0, 1, 4}, {0, 2}}, 2, []int{1, 1}},
		{[][]int{{0, 1, 4}, {0, 2}}, 0, []int{0, 0}},
		{[][]int{{0, 1, 4}, {0, 2}}, 3, []int{2, 1}},
		{[][]int{{7}}, 0, []int{0}},
		{[][]int{{7}, {1, 2}, {-9}}, 1, []int{0, 1, 0}},
		{[][]int{filled(rowMax, 6)}, 11, []int{11}},
		// Equal slopes: those of the first row first, so it is not the first sharing as lists are compared.
		{[][]int{{0, 0, 0}, {0, 0, 0}}, 2, []int{2, 0}},
		{[][]int{{0, 0, 0}, {0, 0, 0}}, 3, []int{2, 1}},
		{[][]int{{0, 2, 4}, {0, 1, 3}, {0, 2}}, 3, []int{2, 1, 0}},
		{[][]int{{0, 2, 4}, {0, 1, 3}, {0, 2}}, 4, []int{2, 2, 0}},
		{[][]int{{5, 6, 8}, {0, 1, 2, 3}, {-7, -6}, {0, 0, 1}}, 1, []int{0, 0, 0, 1}},
		{[][]int{{5, 6, 8}, {0, 1, 2, 3}, {-7, -6}, {0, 0, 1}}, 6, []int{1, 3, 1, 1}},
		{[][]int{{5, 6, 8}, {0, 1, 2, 3}, {-7, -6}, {0, 0, 1}}, 8, []int{2, 3, 1, 2}},
		// What counts are the slopes, and not the entries.
		{[][]int{{-1000, -990}, {999, 1000}}, 1, []int{0, 1}},
		{[][]int{{-1000, 1000}, {1000, -1000}}, 1, []int{0, 1}},
		{slices.Repeat([][]int{filled(rowMax, 0)}, 4), 44, []int{11, 11, 11, 11}},
		{slices.Repeat([][]int{filled(rowMax, 0)}, 4), 23, []int{11, 11, 1, 0}},
	} {
		list, ok := impl.ShareGreedy(c.rows, c.n)
		wantList(t, list, ok, c.want, "ShareGreedy", c.rows, c.n)
	}
}

// TestShareGreedyOfOthers takes rows of which one, at each place in turn, is not bent, and amounts for which its bend does not matter, too.
func TestShareGreedyOfOthers(t *testing.T) {
	failed := 0
	wantNot := func(rows [][]int) {
		failed++
		for _, n := range slices.Concat(counted(mostOf(rows)+1, 0, 1), noAmountsOf(rows)) {
			list, ok := impl.ShareGreedy(rows, n)
			wantNone(t, list, ok, "ShareGreedy", rows, n)
		}
	}
	for _, rows := range shareGroups() {
		if !areBent(rows) {
			wantNot(rows)
		}
	}
	for n := 1; n <= sharersMax; n++ {
		for i := range n {
			rows := slices.Repeat([][]int{{0, 1, 4}}, n)
			rows[i] = []int{0, 1, 2, 1}
			wantNot(rows)
			rows[i] = []int{0, 1, 0}
			wantNot(rows)
		}
	}
	if failed < 500 {
		t.Fatalf("only %d lists of rows had one that is not bent", failed)
	}
}

func TestShareCost(t *testing.T) {
	for _, rows := range shareGroups() {
		for _, list := range allPlaces(rows) {
			cost, ok := impl.ShareCost(rows, list)
			wantNumber(t, cost, ok, sharingCost(rows, list), true, "ShareCost", rows, list)
		}
	}
	for _, c := range []struct {
		rows [][]int
		list []int
		want int
	}{
		{[][]int{{0, 1, 4}, {0, 2}}, []int{1, 1}, 3},
		{[][]int{{0, 1, 4}, {0, 2}}, []int{2, 0}, 4},
		{[][]int{{7}}, []int{0}, 7},
		{[][]int{{1, 5, 1}}, []int{1}, 5},
		{slices.Repeat([][]int{{1000}}, 4), []int{0, 0, 0, 0}, 4000},
		{slices.Repeat([][]int{{0, -1000}}, 4), []int{1, 1, 1, 1}, -4000},
		{[][]int{{-3, 1}, {10, 20}, {400, 300}, filled(rowMax, 5)}, []int{0, 1, 1, 11}, 322},
	} {
		cost, ok := impl.ShareCost(c.rows, c.list)
		wantNumber(t, cost, ok, c.want, true, "ShareCost", c.rows, c.list)
	}
}

func TestSharePrice(t *testing.T) {
	priced, others := 0, 0
	for _, rows := range slices.Concat(limitGroups(), smallGroups()) {
		// All prices are tried for each list, so that only some of the small groups are taken.
		if len(rows) > 2 && sumOf(slices.Concat(rows...))%3 != 0 {
			continue
		}
		for _, list := range allPlaces(rows) {
			low, high, ok := impl.SharePrice(rows, list)
			wantLow, wantHigh, want := pricesOf(rows, list)
			wantTwo(t, low, high, ok, wantLow, wantHigh, want, "SharePrice", rows, list)
			if want {
				priced++
			} else {
				others++
			}
		}
	}
	if priced < 2000 || others < 2000 {
		t.Fatalf("%d sharings had a price, and %d had none", priced, others)
	}
}

func TestSharePriceBounds(t *testing.T) {
	for _, c := range pricedSharings() {
		low, high, ok := impl.SharePrice(c.rows, c.list)
		wantTwo(t, low, high, ok, c.low, c.high, true, "SharePrice", c.rows, c.list)
	}
}

func TestNoPrice(t *testing.T) {
	for _, c := range pricelessSharings() {
		low, high, ok := impl.SharePrice(c.rows, c.list)
		wantTwo(t, low, high, ok, 0, 0, false, "SharePrice", c.rows, c.list)
	}
}

func TestShareMoves(t *testing.T) {
	counts := make([]int, sharersMax*sharersMax)
	for _, rows := range shareGroups() {
		for _, list := range allPlaces(rows) {
			moves, ok := impl.ShareMoves(rows, list)
			wantNumber(t, moves, ok, movesOf(rows, list), true, "ShareMoves", rows, list)
			counts[moves]++
		}
	}
	if slices.Min(counts[:4]) < 1000 {
		t.Fatalf("ShareMoves returned 0, 1 and so on only %v times", counts)
	}
	for _, c := range []struct {
		rows [][]int
		list []int
		want int
	}{
		{[][]int{{0, 1, 4}, {0, 2}}, []int{1, 1}, 0},
		{[][]int{{0, 1, 4}, {0, 2}}, []int{2, 0}, 1},
		// Nothing may be taken off a place 0, nor put to a last one.
		{[][]int{{0, 1, 4}, {0, 2}}, []int{0, 0}, 0},
		{[][]int{{0, 1, 4}, {0, 2}}, []int{2, 1}, 0},
		{[][]int{{5, 0}, {9, 0}}, []int{0, 0}, 0},
		{[][]int{{0, 5}, {0, 9}}, []int{1, 1}, 0},
		{[][]int{{7}}, []int{0}, 0},
		{[][]int{{7}, {0, 9}, {7}}, []int{0, 1, 0}, 0},
		// One row has no other one to move to, bent or not.
		{[][]int{{0, 5, 0}}, []int{1}, 0},
		{[][]int{{5, 0, 5}}, []int{2}, 0},
		// The cost has to be less.
		{[][]int{{0, 1}, {0, 1}}, []int{1, 0}, 0},
		{[][]int{{0, 2}, {0, 1}}, []int{1, 0}, 1},
		{[][]int{{0, 1}, {0, 2}}, []int{1, 0}, 0},
		// Both ways, and from or to several rows.
		{[][]int{{0, 9, 0}, {0, 9, 0}}, []int{1, 1}, 2},
		{[][]int{{0, 9}, {0, 1}, {0, 1}, {0, 1}}, []int{1, 0, 0, 0}, 3},
		{[][]int{{0, 9}, {0, 9}, {0, 1}, {0, 1}}, []int{1, 1, 0, 0}, 4},
		{[][]int{{0, 9}, {0, 9}, {0, 9}, {0, 1}}, []int{1, 1, 1, 0}, 3},
		{slices.Repeat([][]int{{-1000, 1000, -1000}}, 4), []int{1, 1, 1, 1}, 12},
	} {
		moves, ok := impl.ShareMoves(c.rows, c.list)
		wantNumber(t, moves, ok, c.want, true, "ShareMoves", c.rows, c.list)
	}
}

func TestShareCosts(t *testing.T) {
	told, others := 0, 0
	for _, rows := range shareGroups() {
		costs, ok := impl.ShareCosts(rows)
		wantList(t, costs, ok, costsOf(rows), "ShareCosts", rows)
		if ok {
			told++
		} else {
			others++
		}
	}
	if told < 1000 || others < 50 {
		t.Fatalf("ShareCosts succeeded %d times, and failed %d times", told, others)
	}
	for _, c := range []struct {
		rows [][]int
		want []int
	}{
		{[][]int{{0, 1, 4}, {0, 2}}, []int{0, 1, 3, 6}},
		{[][]int{{7}}, []int{7}},
		{[][]int{{7, -3, 5}}, []int{7, -3, 5}},
		{[][]int{{1}, {2}, {3}, {4}}, []int{10}},
		{[][]int{{0, 5, 0}, {0, 5, 0}}, []int{0, 5, 0, 5, 0}},
		{[][]int{{1000}, {1000}, {-1000}}, []int{1000}},
		{[][]int{{-1000}, {-1000}, {1000}}, []int{-1000}},
		{[][]int{{1000}, {1000}, {-1000}, {-1000}}, []int{0}},
		{[][]int{{500}, {500}}, []int{1000}},
		{[][]int{{-500}, {-500}}, []int{-1000}},
		{[][]int{{0, 1000, 0}, {0, 1000, 0}}, []int{0, 1000, 0, 1000, 0}},
		{[][]int{filled(rowMax, 3), {4}}, filled(rowMax, 7)},
		{[][]int{filled(rowMax-1, 3), {4, 5}}, append(filled(rowMax-1, 7), 8)},
		{[][]int{counted(4, 0, 1), counted(4, 0, 1), counted(4, 0, 1), counted(3, 0, 1)}, counted(rowMax, 0, 1)},
	} {
		costs, ok := impl.ShareCosts(c.rows)
		wantList(t, costs, ok, c.want, "ShareCosts", c.rows)
	}
}

// TestShareCostsNoRow takes rows whose least costs are no row: too many of them, or one that is beyond entryMax.
func TestShareCostsNoRow(t *testing.T) {
	for _, rows := range [][][]int{
		{filled(rowMax, 0), {0, 0}}, {{0, 0}, filled(rowMax, 0)}, {filled(rowMax-1, 0), {0, 0, 0}}, {filled(7, 0), filled(7, 0)}, {{0}, filled(7, 0), {0}, filled(7, 0)},
		slices.Repeat([][]int{counted(4, 0, 1)}, 4), slices.Repeat([][]int{filled(rowMax, 0)}, 4), slices.Repeat([][]int{filled(rowMax, 500)}, 3),
		{{1000}, {1}}, {{-1000}, {-1}}, {{501}, {500}}, {{-501}, {-500}}, {{1000}, {1000}, {1000}, {1000}}, {{-1000}, {-1000}, {-1000}, {-1000}},
		{{1000, 0}, {1, 0}}, {{0, 1000}, {0, 1}}, {{0, -1000}, {0, -1}}, {{-1000, 0}, {-1, 0}}, {{0, 1000, 0}, {1}}, {{0, -1000, 0}, {-1}},
		{{0, 0, 0, 0, 0, -501}, {0, 0, 0, 0, 0, -500}}, {{1000}, {-1000}, {1000}, {1}},
	} {
		costs, ok := impl.ShareCosts(rows)
		wantNone(t, costs, ok, "ShareCosts", rows)
	}
}

func TestShareAll(t *testing.T) {
	several := 0
	for _, rows := range shareGroups() {
		for n, sharings := range sharingsOf(rows) {
			count, ok := impl.ShareAll(rows, n)
			want := len(cheapestOf(rows, sharings))
			wantNumber(t, count, ok, want, true, "ShareAll", rows, n)
			if want > 1 {
				several++
			}
		}
	}
	if several < 1000 {
		t.Fatalf("only %d times there were several sharings of the least cost", several)
	}
	for _, c := range []struct {
		rows [][]int
		n    int
		want int
	}{
		{[][]int{{0, 1, 4}, {0, 2}}, 2, 1},
		{[][]int{{7}}, 0, 1},
		{[][]int{{7}, {8}, {9}, {1}}, 0, 1},
		{[][]int{filled(rowMax, 0)}, 6, 1},
		{[][]int{{0, 0, 0}, {0, 0, 0}}, 0, 1},
		{[][]int{{0, 0, 0}, {0, 0, 0}}, 1, 2},
		{[][]int{{0, 0, 0}, {0, 0, 0}}, 2, 3},
		{[][]int{{0, 1, 0}, {0, 1, 0}}, 2, 2},
		{[][]int{{0, 1, 4}, {0, 1, 4}, {0, 1, 4}}, 4, 3},
		{[][]int{{0, 0}, {0, 0}, {0, 0}, {0, 0}}, 2, 6},
		{[][]int{{1000}, {1000}, {1000}, {1000, 1000}}, 1, 1},
		// A dearer sharing between two of the least cost, and a cheaper one behind two dearer ones.
		{[][]int{{3, 9, 3}, {5, 5, 5}}, 2, 2},
		{[][]int{{4, 4, 0}, {0, 0, 0}}, 2, 1},
		{slices.Repeat([][]int{filled(rowMax, 1000)}, 4), 22, 1156},
		{slices.Repeat([][]int{filled(rowMax, 0)}, 4), 44, 1},
	} {
		count, ok := impl.ShareAll(c.rows, c.n)
		wantNumber(t, count, ok, c.want, true, "ShareAll", c.rows, c.n)
	}
}

// wantNoAmount checks that all that is told of an amount fails.
func wantNoAmount(t *testing.T, rows [][]int, n int) {
	t.Helper()
	cost, list, ok := impl.ShareTry(rows, n)
	wantNumber(t, cost, ok, 0, false, "ShareTry", rows, n)
	wantNone(t, list, ok, "ShareTry", rows, n)
	list, ok = impl.ShareGreedy(rows, n)
	wantNone(t, list, ok, "ShareGreedy", rows, n)
	count, ok := impl.ShareAll(rows, n)
	wantNumber(t, count, ok, 0, false, "ShareAll", rows, n)
}

// wantNoSharing checks that all that is told of a sharing fails.
func wantNoSharing(t *testing.T, rows [][]int, list []int) {
	t.Helper()
	cost, ok := impl.ShareCost(rows, list)
	wantNumber(t, cost, ok, 0, false, "ShareCost", rows, list)
	low, high, ok := impl.SharePrice(rows, list)
	wantTwo(t, low, high, ok, 0, 0, false, "SharePrice", rows, list)
	moves, ok := impl.ShareMoves(rows, list)
	wantNumber(t, moves, ok, 0, false, "ShareMoves", rows, list)
}

func TestNoAmount(t *testing.T) {
	for _, rows := range slices.Concat(shareGroups(), bentGroups()) {
		for _, n := range noAmountsOf(rows) {
			if n < 0 || n > mostOf(rows) {
				wantNoAmount(t, rows, n)
			}
		}
	}
}

func TestNoSharing(t *testing.T) {
	for _, rows := range slices.Concat(shareGroups(), bentGroups()) {
		for _, list := range noPlacesOf(rows) {
			wantNoSharing(t, rows, list)
		}
	}
	for _, c := range []struct {
		rows [][]int
		list []int
	}{
		// Places of the other row, and those whose sum is an amount that there are sharings of.
		{[][]int{{0, 1, 4}, {0, 2}}, []int{1, 2}},
		{[][]int{{0, 1, 4}, {0, 2}}, []int{3, -1}},
		{[][]int{{0, 1, 4}, {0, 2}}, []int{-1, 1}},
		{[][]int{{0, 1, 4}, {0, 2}}, []int{3, 0}},
		{[][]int{{7}}, []int{1}},
		{[][]int{{7}}, nil},
	} {
		wantNoSharing(t, c.rows, c.list)
	}
}

func TestNoSharers(t *testing.T) {
	for _, rows := range noSharers() {
		for _, n := range []int{0, 1, 2, 12, -1, 1 << 62, -1 << 63} {
			wantNoAmount(t, rows, n)
		}
		for _, list := range [][]int{nil, filled(len(rows), 0), filled(len(rows), 1), filled(len(rows), -1), filled(len(rows), rowMax), {0}} {
			wantNoSharing(t, rows, list)
		}
		costs, ok := impl.ShareCosts(rows)
		wantNone(t, costs, ok, "ShareCosts", rows)
	}
}
