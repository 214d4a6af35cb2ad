package tests

import (
	"slices"
	"testing"

	"loop.example/bentrows/impl"
)

// leastCost returns the cost that ShareTry tells of an amount that there is a sharing of.
func leastCost(t *testing.T, rows [][]int, n int) int {
	t.Helper()
	cost, _, ok := impl.ShareTry(rows, n)
	if !ok {
		t.Fatalf("ShareTry of %v and %d failed", rows, n)
	}
	return cost
}

// someSharings returns sharings of rows: all of them, or of many some, those with all places 0 and all the last ones among them.
func someSharings(rows [][]int) [][]int {
	all := allPlaces(rows)
	step := max(1, len(all)/100)
	var some [][]int
	for i := 0; i < len(all); i += step {
		some = append(some, all[i])
	}
	return append(some, all[len(all)-1])
}

func TestPromise55(t *testing.T) {
	bent, others := 0, 0
	for _, rows := range slices.Concat(shareGroups(), bentGroups()) {
		for n := range mostOf(rows) + 1 {
			cost, list, ok := impl.ShareTry(rows, n)
			if !ok || len(list) != len(rows) || sumOf(list) != n {
				t.Fatalf("ShareTry of %v and %d returned %v, %t", rows, n, list, ok)
			}
			if told, ok := impl.ShareCost(rows, list); !ok || told != cost {
				t.Fatalf("ShareTry of %v and %d returned %d and %v, but ShareCost %d, %t", rows, n, cost, list, told, ok)
			}
			if !areBent(rows) {
				others++
				continue
			}
			bent++
			if _, _, ok := impl.SharePrice(rows, list); !ok {
				t.Fatalf("SharePrice of the bent rows %v fails for %v, which ShareTry returned", rows, list)
			}
			if moves, ok := impl.ShareMoves(rows, list); !ok || moves != 0 {
				t.Fatalf("ShareMoves of the bent rows %v and %v, which ShareTry returned, is %d, %t", rows, list, moves, ok)
			}
		}
	}
	if bent < 1000 || others < 1000 {
		t.Fatalf("ShareTry succeeded %d times for bent rows, and %d times for others", bent, others)
	}
}

func TestPromise56(t *testing.T) {
	succeeded := 0
	for _, rows := range bentGroups() {
		for n := range mostOf(rows) + 1 {
			list, ok := impl.ShareGreedy(rows, n)
			if !ok || len(list) != len(rows) || sumOf(list) != n {
				t.Fatalf("ShareGreedy of %v and %d returned %v, %t", rows, n, list, ok)
			}
			succeeded++
			if cost, ok := impl.ShareCost(rows, list); !ok || cost != leastCost(t, rows, n) {
				t.Fatalf("ShareGreedy of %v and %d returned %v, which costs %d, %t", rows, n, list, cost, ok)
			}
			if fewer, ok := impl.ShareGreedy(rows, n-1); ok && !isBelow(fewer, list) || ok != (n > 0) {
				t.Fatalf("ShareGreedy of %v returned %v for %d, and %v, %t for %d", rows, list, n, fewer, ok, n-1)
			}
		}
	}
	if succeeded < 1000 {
		t.Fatalf("ShareGreedy succeeded only %d times", succeeded)
	}
}

func TestPromise57(t *testing.T) {
	least, more := 0, 0
	for _, rows := range slices.Concat(shareGroups(), bentGroups()) {
		for _, list := range someSharings(rows) {
			cost, ok := impl.ShareCost(rows, list)
			tried := leastCost(t, rows, sumOf(list))
			if !ok || cost < tried {
				t.Fatalf("ShareCost of %v and %v returned %d, %t, but ShareTry %d", rows, list, cost, ok, tried)
			}
			if cost == tried {
				least++
			} else {
				more++
			}
		}
	}
	if least < 1000 || more < 1000 {
		t.Fatalf("%d sharings cost as little as that of ShareTry, and %d more", least, more)
	}
}

func TestPromise58(t *testing.T) {
	succeeded := 0
	for _, rows := range bentGroups() {
		for _, list := range someSharings(rows) {
			low, high, ok := impl.SharePrice(rows, list)
			if !ok {
				continue
			}
			succeeded++
			if low < -priceMax || low > high || high > priceMax {
				t.Fatalf("SharePrice of %v and %v returned %d, %d", rows, list, low, high)
			}
			cost, ok := impl.ShareCost(rows, list)
			if tried := leastCost(t, rows, sumOf(list)); !ok || cost != tried {
				t.Fatalf("SharePrice of %v and %v returned %d, %d, but ShareCost %d, %t, and ShareTry %d", rows, list, low, high, cost, ok, tried)
			}
		}
	}
	if succeeded < 1000 {
		t.Fatalf("SharePrice succeeded only %d times", succeeded)
	}
}

func TestPromise59(t *testing.T) {
	least, more := 0, 0
	for _, rows := range bentGroups() {
		for _, list := range someSharings(rows) {
			moves, ok := impl.ShareMoves(rows, list)
			if !ok || moves < 0 {
				t.Fatalf("ShareMoves of %v and %v returned %d, %t", rows, list, moves, ok)
			}
			cost, ok := impl.ShareCost(rows, list)
			tried := leastCost(t, rows, sumOf(list))
			if !ok || (moves == 0) != (cost == tried) {
				t.Fatalf("ShareMoves of the bent rows %v and %v returned %d, but ShareCost %d, %t, and ShareTry %d", rows, list, moves, cost, ok, tried)
			}
			if moves == 0 {
				least++
			} else {
				more++
			}
		}
	}
	if least < 1000 || more < 1000 {
		t.Fatalf("ShareMoves was 0 for %d sharings, and more for %d", least, more)
	}
}

func TestPromise60(t *testing.T) {
	bent, others := 0, 0
	for _, rows := range slices.Concat(shareGroups(), bentGroups()) {
		costs, ok := impl.ShareCosts(rows)
		if !ok {
			continue
		}
		if len(costs) != mostOf(rows)+1 {
			t.Fatalf("ShareCosts of %v returned %v", rows, costs)
		}
		for n, cost := range costs {
			if tried := leastCost(t, rows, n); cost != tried {
				t.Fatalf("ShareCosts of %v returned %v, but ShareTry of %d is %d", rows, costs, n, tried)
			}
		}
		if _, _, ok := impl.ShareTry(rows, len(costs)); ok {
			t.Fatalf("ShareCosts of %v returned %v, but there is a sharing of %d", rows, costs, len(costs))
		}
		if !areBent(rows) {
			others++
			continue
		}
		bent++
		if !impl.RowBent(costs) {
			t.Fatalf("ShareCosts of the bent rows %v returned %v", rows, costs)
		}
	}
	if bent < 300 || others < 1000 {
		t.Fatalf("ShareCosts succeeded %d times for bent rows, and %d times for others", bent, others)
	}
}

// TestPromise61 takes the rows in the order from the last one to the first one.
func TestPromise61(t *testing.T) {
	one, several := 0, 0
	for _, rows := range slices.Concat(shareGroups(), bentGroups()) {
		back := slices.Clone(rows)
		slices.Reverse(back)
		for n := range mostOf(rows) + 1 {
			count, ok := impl.ShareAll(rows, n)
			other, otherOk := impl.ShareAll(back, n)
			if !ok || !otherOk || count < 1 || count != other {
				t.Fatalf("ShareAll of %v and %d returned %d, %t, and backwards %d, %t", rows, n, count, ok, other, otherOk)
			}
			if count == 1 {
				one++
			} else {
				several++
			}
		}
	}
	if one < 1000 || several < 1000 {
		t.Fatalf("ShareAll was 1 for %d amounts, and more for %d", one, several)
	}
}

// TestPromise61Entries takes rows whose own entries are backwards: what is left of the greatest amount is shared as often.
func TestPromise61Entries(t *testing.T) {
	for _, rows := range shareGroups() {
		var back [][]int
		for _, a := range rows {
			back = append(back, backwards(a))
		}
		most := mostOf(rows)
		for n := range most + 1 {
			count, ok := impl.ShareAll(rows, n)
			other, otherOk := impl.ShareAll(back, most-n)
			if !ok || !otherOk || count != other {
				t.Fatalf("ShareAll of %v and %d returned %d, %t, and that of %v and %d %d, %t", rows, n, count, ok, back, most-n, other, otherOk)
			}
		}
	}
}
