package tests

import (
	"slices"
	"testing"

	"loop.example/bentrows/impl"
)

func TestPromise37(t *testing.T) {
	held := 0
	for _, a := range valleyRows() {
		if !impl.RowBent(a) {
			continue
		}
		held++
		back, _ := impl.RowBack(a)
		if !impl.ValleyOne(a) || !impl.ValleyOne(back) {
			t.Fatalf("ValleyOne does not hold both for the bent row %v and for it backwards", a)
		}
		if cost, ok := impl.ValleyCost(a); !ok || cost != 0 {
			t.Fatalf("ValleyCost of the bent row %v returned %d, %t", a, cost, ok)
		}
	}
	if held < 200 {
		t.Fatalf("RowBent held only for %d rows", held)
	}
}

func TestPromise38(t *testing.T) {
	succeeded := 0
	for _, a := range valleyRows() {
		place, ok := impl.ValleySearch(a)
		if !ok {
			continue
		}
		succeeded++
		if _, first, _, ok := impl.RowLeast(a); !ok || place != first {
			t.Fatalf("ValleySearch of %v returned %d, but the least entry stands at %d", a, place, first)
		}
	}
	if succeeded < 500 {
		t.Fatalf("ValleySearch succeeded only %d times", succeeded)
	}
}

func TestPromise39(t *testing.T) {
	for _, a := range valleyRows() {
		cost, ok := impl.ValleyCost(a)
		if !ok || (cost == 0) != impl.ValleyOne(a) || cost < 0 {
			t.Fatalf("ValleyCost of %v returned %d, %t, and ValleyOne %t", a, cost, ok, impl.ValleyOne(a))
		}
		back, _ := impl.RowBack(a)
		if other, ok := impl.ValleyCost(back); !ok || other != cost {
			t.Fatalf("ValleyCost of %v returned %d, and backwards %d, %t", a, cost, other, ok)
		}
	}
}

func TestPromise40(t *testing.T) {
	differed, same := 0, 0
	for _, a := range valleyRows() {
		cost, ok := impl.ValleyCost(a)
		raised := slices.Clone(a)
		raised[0]++
		other, rowOk := impl.ValleyCost(raised)
		if !ok || rowOk != impl.RowIn(raised) {
			t.Fatalf("ValleyCost of %v and %v returned %t and %t", a, raised, ok, rowOk)
		}
		if !rowOk {
			continue
		}
		switch distance(cost, other) {
		case 0:
			same++
		case 1:
			differed++
		default:
			t.Fatalf("ValleyCost of %v returned %d, and that of %v %d", a, cost, raised, other)
		}
	}
	if differed < 200 || same < 200 {
		t.Fatalf("ValleyCost differed only %d times, and was the same %d times", differed, same)
	}
}

func TestPromise41(t *testing.T) {
	held := 0
	for _, a := range hills() {
		if !impl.HillRound(a) {
			continue
		}
		held++
		if back, _ := impl.RowBack(a); !impl.HillRound(back) {
			t.Fatalf("HillRound holds for %v, but not backwards", a)
		}
		if !impl.ValleyOne(turned(a)) {
			t.Fatalf("HillRound holds for %v, but with all signs turned it has not one valley", a)
		}
	}
	if held < 500 {
		t.Fatalf("HillRound held only for %d hills", held)
	}
}

func TestPromise42(t *testing.T) {
	succeeded, round := 0, 0
	for _, a := range fewHills() {
		for _, b := range fewHills() {
			folded, ok := impl.HillFold(a, b)
			other, alsoOk := impl.HillFold(b, a)
			if ok != alsoOk || !slices.Equal(folded, other) {
				t.Fatalf("HillFold of %v and %v returned %v, %t, and exchanged %v, %t", a, b, folded, ok, other, alsoOk)
			}
			if !ok {
				continue
			}
			succeeded++
			if sumOf(folded) != sumOf(a)*sumOf(b) {
				t.Fatalf("HillFold of %v and %v returned %v, which does not add up to the product of both sums", a, b, folded)
			}
			if impl.HillRound(a) && impl.HillRound(b) {
				round++
				if !impl.HillRound(folded) {
					t.Fatalf("HillFold of the round hills %v and %v returned %v", a, b, folded)
				}
			}
		}
	}
	if succeeded < 10000 || round < 2000 {
		t.Fatalf("HillFold succeeded only %d times, and %d times for round hills", succeeded, round)
	}
}

func TestPromise43(t *testing.T) {
	round := 0
	for _, a := range hills() {
		first, last, ok := impl.HillTop(a)
		if !ok {
			t.Fatalf("HillTop of %v failed", a)
		}
		if _, i, k, ok := impl.RowLeast(turned(a)); !ok || first != i || last != k {
			t.Fatalf("HillTop of %v returned %d and %d, but RowLeast with all signs turned %d and %d", a, first, last, i, k)
		}
		if !impl.HillRound(a) {
			continue
		}
		round++
		for _, x := range a[first : last+1] {
			if x != a[first] {
				t.Fatalf("HillTop of the round hill %v returned %d and %d", a, first, last)
			}
		}
	}
	if round < 500 {
		t.Fatalf("HillRound held only for %d hills", round)
	}
}

func TestPromise44(t *testing.T) {
	succeeded, round := 0, 0
	for _, a := range hills() {
		raised, ok := impl.HillRaise(a)
		if !ok {
			continue
		}
		succeeded++
		if len(raised) != len(a) || raised[0] != a[0] || raised[len(a)-1] != a[len(a)-1] {
			t.Fatalf("HillRaise of %v returned %v", a, raised)
		}
		if impl.HillRound(a) {
			round++
			if !impl.HillRound(raised) {
				t.Fatalf("HillRaise of the round hill %v returned %v", a, raised)
			}
		}
	}
	if succeeded < 1000 || round < 300 {
		t.Fatalf("HillRaise succeeded only %d times, and %d times for round hills", succeeded, round)
	}
}
