package tests

import (
	"slices"
	"testing"

	"loop.example/bentrows/impl"
)

// mustSplitCost returns SplitCost of a split.
func mustSplitCost(t *testing.T, a []int, letter string, split []int) int {
	t.Helper()
	cost, ok := impl.SplitCost(a, letter, split)
	if !ok {
		t.Fatalf("SplitCost of %v, %q and %v failed", a, letter, split)
	}
	return cost
}

// mustSplitLeast returns SplitLeast of a row.
func mustSplitLeast(t *testing.T, a []int, letter string, k int) int {
	t.Helper()
	cost, ok := impl.SplitLeast(a, letter, k)
	if !ok {
		t.Fatalf("SplitLeast of %v, %q and %d failed", a, letter, k)
	}
	return cost
}

// mustSplitCosts returns SplitCosts of a row.
func mustSplitCosts(t *testing.T, a []int, letter string) []int {
	t.Helper()
	costs, ok := impl.SplitCosts(a, letter)
	if !ok {
		t.Fatalf("SplitCosts of %v and %q failed", a, letter)
	}
	return costs
}

// mustSplitEven returns SplitEven of a row.
func mustSplitEven(t *testing.T, a []int, k int) int {
	t.Helper()
	even, ok := impl.SplitEven(a, k)
	if !ok {
		t.Fatalf("SplitEven of %v and %d failed", a, k)
	}
	return even
}

func TestPromise70(t *testing.T) {
	same, more := 0, 0
	for i, a := range splitRows() {
		splits := splitsOf(len(a))
		// Of the long rows, only some are taken.
		if len(a) > 8 && i%4 != 0 {
			continue
		}
		for _, letter := range letters() {
			for k := 1; k <= len(a); k++ {
				least := mustSplitLeast(t, a, letter, k)
				for _, split := range splits[k] {
					cost := mustSplitCost(t, a, letter, split)
					switch {
					case cost < least:
						t.Fatalf("SplitCost of %v, %q and %v returned %d, and SplitLeast %d", a, letter, split, cost, least)
					case cost > least:
						more++
					default:
						same++
					}
				}
			}
		}
	}
	if same < 5000 || more < 5000 {
		t.Fatalf("SplitCost was SplitLeast %d times, and more %d times", same, more)
	}
}

func TestPromise71(t *testing.T) {
	for _, a := range splitRows() {
		back, _ := impl.RowBack(a)
		for _, letter := range letters() {
			for k := 1; k <= len(a); k++ {
				least := mustSplitLeast(t, a, letter, k)
				if other := mustSplitLeast(t, back, letter, k); other != least || least < 0 {
					t.Fatalf("SplitLeast of %v, %q and %d returned %d, and backwards %d", a, letter, k, least, other)
				}
			}
		}
		if least := mustSplitLeast(t, a, "w", len(a)); least != 0 {
			t.Fatalf("SplitLeast of %v into as many parts as entries returned %d", a, least)
		}
	}
}

func TestPromise72(t *testing.T) {
	for _, a := range splitRows() {
		for _, letter := range letters() {
			for k := 1; k <= len(a); k++ {
				first, ok := impl.SplitFirst(a, letter, k)
				if !ok || len(first) != k || !ascends(first) {
					t.Fatalf("SplitFirst of %v, %q and %d returned %v, %t", a, letter, k, first, ok)
				}
				if cost, least := mustSplitCost(t, a, letter, first), mustSplitLeast(t, a, letter, k); cost != least {
					t.Fatalf("SplitFirst of %v, %q and %d returned %v, which costs %d; SplitLeast returned %d", a, letter, k, first, cost, least)
				}
			}
		}
	}
}

func TestPromise73(t *testing.T) {
	for _, a := range splitRows() {
		for _, letter := range letters() {
			costs := mustSplitCosts(t, a, letter)
			if len(costs) != len(a) {
				t.Fatalf("SplitCosts of %v and %q returned %v", a, letter, costs)
			}
			for i, cost := range costs {
				if least := mustSplitLeast(t, a, letter, i+1); cost != least {
					t.Fatalf("SplitCosts of %v and %q returned %v, but SplitLeast into %d parts is %d", a, letter, costs, i+1, least)
				}
			}
			if letter == "w" && !slices.IsSorted(backwards(costs)) {
				t.Fatalf("SplitCosts of %v by w returned %v", a, costs)
			}
		}
	}
	for _, a := range plusRows() {
		costs := mustSplitCosts(t, a, "s")
		if !slices.IsSorted(backwards(costs)) || !isBent(costs) {
			t.Fatalf("SplitCosts of %v by s returned %v", a, costs)
		}
	}
}

func TestPromise74(t *testing.T) {
	for _, a := range splitRows() {
		for _, letter := range letters() {
			costs := mustSplitCosts(t, a, letter)
			for _, p := range []int{0, 1, 4, 30, 2000, partPriceMax} {
				cost, count, ok := impl.SplitAny(a, letter, p)
				if !ok || count < 1 || count > len(a) || costs[count-1]+p*count != cost {
					t.Fatalf("SplitAny of %v, %q and %d returned %d, %d, %t; the costs are %v", a, letter, p, cost, count, ok, costs)
				}
				for i, other := range costs {
					if whole := other + p*(i+1); whole < cost || whole == cost && i+1 < count {
						t.Fatalf("SplitAny of %v, %q and %d returned %d, %d; but %d parts cost %d", a, letter, p, cost, count, i+1, whole)
					}
				}
			}
		}
	}
}

func TestPromise75(t *testing.T) {
	for _, a := range splitRows() {
		for k := 1; k <= len(a); k++ {
			want := 1
			if k > 1 {
				// What is not told is 0.
				same, _ := impl.SplitMany(a[1:], k)
				less, _ := impl.SplitMany(a[1:], k-1)
				want = same + less
			}
			many, ok := impl.SplitMany(a, k)
			wantNumber(t, many, ok, want, true, "SplitMany", a, k)
			if (k == 1 || k == len(a)) && many != 1 {
				t.Fatalf("SplitMany of %v and %d returned %d", a, k, many)
			}
		}
	}
}

func TestPromise76(t *testing.T) {
	same, less := 0, 0
	for _, a := range plusRows() {
		sum := sumOf(a)
		if even := mustSplitEven(t, a, 1); even != sum {
			t.Fatalf("SplitEven of %v into one part returned %d", a, even)
		}
		for k := 1; k <= len(a); k++ {
			even := mustSplitEven(t, a, k)
			if even*k < sum || even < slices.Max(a) {
				t.Fatalf("SplitEven of %v and %d returned %d", a, k, even)
			}
			if k == len(a) {
				continue
			}
			more := mustSplitEven(t, a, k+1)
			switch {
			case more > even:
				t.Fatalf("SplitEven of %v and %d returned %d, and with one part more %d", a, k, even, more)
			case more < even:
				less++
			default:
				same++
			}
		}
	}
	if same < 300 || less < 300 {
		t.Fatalf("SplitEven was the same with one part more %d times, and less %d times", same, less)
	}
}
