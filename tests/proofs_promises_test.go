package tests

import (
	"slices"
	"testing"

	"loop.example/bentrows/impl"
)

func TestPromise85(t *testing.T) {
	succeeded := 0
	for _, rows := range slices.Concat(bentGroups(), shareGroups(), noSharers()) {
		for n := range len(slices.Concat(rows...)) + 1 {
			text, ok := impl.ProofShare(rows, n)
			list, greedy := impl.ShareGreedy(rows, n)
			if ok != greedy {
				t.Fatalf("ProofShare of %v and %d returned %q, %t, but ShareGreedy %v, %t", rows, n, text, ok, list, greedy)
			}
			if !ok {
				continue
			}
			succeeded++
			wantSharingProof(t, rows, list, text, true)
			low, _, ok := impl.SharePrice(rows, list)
			wantNumber(t, low, ok, numbersIn(text)[0], true, "SharePrice", rows, list)
		}
	}
	if succeeded < 1000 {
		t.Fatalf("ProofShare succeeded only %d times", succeeded)
	}
}

func TestPromise86(t *testing.T) {
	held := 0
	forPrices(func(rows [][]int, list []int, text string) {
		if !impl.ProofShareIs(rows, list, text) {
			return
		}
		held++
		cost, ok := impl.ShareCost(rows, list)
		wantNumber(t, cost, ok, leastCost(t, rows, sumOf(list)), true, "ShareCost", rows, list, text)
	})
	if held < 2000 {
		t.Fatalf("ProofShareIs held only %d times", held)
	}
}

// TestPromise86Others takes sharings that are not least: no number is a proof of one.
func TestPromise86Others(t *testing.T) {
	others := 0
	for _, rows := range bentGroups() {
		if len(rows) > 2 {
			continue
		}
		for _, list := range someSharings(rows) {
			cost, ok := impl.ShareCost(rows, list)
			if !ok || cost == leastCost(t, rows, sumOf(list)) {
				continue
			}
			others++
			for price := -2010; price <= 2010; price += 1 + others%7 {
				wantSharingProof(t, rows, list, priceText(price), false)
			}
		}
	}
	if others < 300 {
		t.Fatalf("only %d sharings were not least", others)
	}
}

func TestPromise87(t *testing.T) {
	held, others := 0, 0
	forMatches(func(m matchSample, match []int) {
		if !impl.ProofMatchIs(m.table, match, m.text()) {
			others++
			return
		}
		held++
		cost, _, ok := impl.TableMatch(m.table)
		wantNumber(t, cost, ok, matchCost(m.table, match), true, "TableMatch", m.table, match, m.levels)
	})
	if min(held, others) < 1000 {
		t.Fatalf("ProofMatchIs held %d times, and %d times it did not", held, others)
	}
}

// TestPromise87Levels takes small tables with all levels of some values, for all matches.
func TestPromise87Levels(t *testing.T) {
	held := 0
	all := slices.DeleteFunc(rowsOf(4, -1, 0, 1, 2), func(levels []int) bool { return len(levels) != 4 })
	for _, table := range tablesOf(2, 2, -1, 0, 1) {
		cost, _, ok := impl.TableMatch(table)
		for _, levels := range all {
			for _, match := range orders(2) {
				if !impl.ProofMatchIs(table, match, levelsText(levels)) {
					continue
				}
				held++
				wantNumber(t, cost, ok, matchCost(table, match), true, "TableMatch", table, match, levels)
			}
		}
	}
	if held < 300 {
		t.Fatalf("ProofMatchIs held only %d times", held)
	}
}

func TestPromise88(t *testing.T) {
	succeeded := 0
	for _, table := range slices.Concat(manyTables(), squareTables(), noTables()) {
		text, ok := impl.ProofMatch(table)
		if !ok {
			continue
		}
		succeeded++
		wantMatchProof(t, table, counted(len(table), 0, 1), text, true)
		if levels := numbersIn(text); levels[0] != 0 || levels[len(table)] != table[0][0] {
			t.Fatalf("ProofMatch of %v returned %q", table, text)
		}
	}
	if succeeded < 300 {
		t.Fatalf("ProofMatch succeeded only %d times", succeeded)
	}
}

func TestPromise89(t *testing.T) {
	succeeded := 0
	for _, table := range slices.Concat(manyTables(), noTables()) {
		i, k, ok := impl.ProofCrossed(table)
		if !ok {
			continue
		}
		succeeded++
		wantCrossed(t, table, false)
		if table[i][k]+table[i+1][k+1] <= table[i][k+1]+table[i+1][k] {
			t.Fatalf("ProofCrossed of %v returned %d and %d", table, i, k)
		}
		// What is ahead of the spot shows nothing: neither the rows up to its own, nor the columns up to its own of the row behind it.
		wantCrossed(t, table[:i+1], true)
		var ahead [][]int
		for _, a := range table[i : i+2] {
			ahead = append(ahead, a[:k+1])
		}
		wantCrossed(t, ahead, true)
	}
	if succeeded < 1000 {
		t.Fatalf("ProofCrossed succeeded only %d times", succeeded)
	}
}

func TestPromise90(t *testing.T) {
	shown, crossed := 0, 0
	for _, table := range manyTables() {
		if _, ok := impl.TableLeast(table); !ok {
			t.Fatalf("TableLeast of %v failed", table)
		}
		_, _, ok := impl.ProofCrossed(table)
		wantCrossed(t, table, !ok)
		if ok {
			shown++
		} else {
			crossed++
		}
	}
	if min(shown, crossed) < 500 {
		t.Fatalf("ProofCrossed succeeded %d times, and failed %d times", shown, crossed)
	}
}
