package tests

import (
	"slices"
	"testing"

	"loop.example/bentrows/impl"
)

func TestPromise1(t *testing.T) {
	for _, a := range manyRows() {
		if !impl.RowIn(a) {
			t.Fatalf("RowIn does not hold for %v", a)
		}
		slopes, ok := impl.RowSlopes(a)
		if !ok {
			t.Fatalf("RowSlopes of %v failed", a)
		}
		back, ok := impl.RowFrom(a[0], slopes)
		wantList(t, back, ok, a, "RowFrom", a[0], slopes)
	}
}

func TestPromise2(t *testing.T) {
	for _, a := range manyRows() {
		slopes, ok := impl.RowSlopes(a)
		sum := 0
		for _, s := range slopes {
			sum += s
		}
		if !ok || len(slopes) != len(a)-1 || sum != a[len(a)-1]-a[0] {
			t.Fatalf("RowSlopes of %v returned %v, %t", a, slopes, ok)
		}
	}
}

func TestPromise3(t *testing.T) {
	succeeded := 0
	for _, slopes := range append(fewRows(), nil, []int{2000}, []int{-2000}, []int{2000, -2000, 2000}) {
		for _, first := range []int{0, 7, -1000, 1000, 1001} {
			a, ok := impl.RowFrom(first, slopes)
			if !ok {
				continue
			}
			succeeded++
			again, ok := impl.RowSlopes(a)
			if !ok || !slices.Equal(again, slopes) || a[0] != first || !impl.RowIn(a) {
				t.Fatalf("RowFrom of %d and %v returned %v", first, slopes, a)
			}
		}
	}
	if succeeded < 100 {
		t.Fatalf("RowFrom succeeded only %d times", succeeded)
	}
}

func TestPromise4(t *testing.T) {
	for _, a := range manyRows() {
		if !impl.RowBent(a) {
			continue
		}
		if back, ok := impl.RowBack(a); !ok || !impl.RowBent(back) {
			t.Fatalf("RowBent does not hold for %v backwards", a)
		}
		if len(a) >= 2 {
			if part, ok := impl.RowPart(a, 1, len(a)-1); !ok || !impl.RowBent(part) {
				t.Fatalf("RowBent does not hold for %v without the first entry", a)
			}
		}
		for i := range a {
			for d := 1; i-d >= 0 && i+d < len(a); d++ {
				if 2*a[i] > a[i-d]+a[i+d] {
					t.Fatalf("RowBent holds for %v", a)
				}
			}
		}
	}
}

func TestPromise5(t *testing.T) {
	for _, a := range fewRows() {
		for _, b := range fewRows() {
			sum, ok := impl.RowSum(a, b)
			if !ok {
				continue
			}
			back, ok := impl.RowSum(b, a)
			wantList(t, back, ok, sum, "RowSum", b, a)
			if impl.RowBent(a) && impl.RowBent(b) && !impl.RowBent(sum) {
				t.Fatalf("RowBent does not hold for RowSum of %v and %v", a, b)
			}
		}
	}
}

func TestPromise6(t *testing.T) {
	for _, a := range manyRows() {
		for _, k := range []int{-1000, -3, -1, 0, 1, 2, 500, 1000} {
			times, ok := impl.RowTimes(a, k)
			if !ok {
				continue
			}
			slopes, _ := impl.RowSlopes(a)
			for i := range slopes {
				slopes[i] *= k
			}
			if got, ok := impl.RowSlopes(times); !ok || !slices.Equal(got, slopes) {
				t.Fatalf("RowTimes of %v and %d returned %v", a, k, times)
			}
			if k >= 0 && impl.RowBent(a) && !impl.RowBent(times) {
				t.Fatalf("RowBent does not hold for RowTimes of %v and %d", a, k)
			}
		}
	}
}

func TestPromise7(t *testing.T) {
	for _, a := range manyRows() {
		back, ok := impl.RowBack(a)
		if !ok || impl.RowBent(back) != impl.RowBent(a) {
			t.Fatalf("RowBack of %v returned %v, %t", a, back, ok)
		}
		again, ok := impl.RowBack(back)
		wantList(t, again, ok, a, "RowBack", back)
	}
}

func TestPromise8(t *testing.T) {
	for _, a := range manyRows() {
		for _, first := range []int{-1000, -2, 0, 5, 1000} {
			for _, slope := range []int{-1000, -1, 0, 3, 90, 1000} {
				tilted, ok := impl.RowTilt(a, first, slope)
				if !ok {
					continue
				}
				if impl.RowBent(tilted) != impl.RowBent(a) {
					t.Fatalf("RowBent does not hold for both of %v and %v", a, tilted)
				}
				back, ok := impl.RowTilt(tilted, -first, -slope)
				wantList(t, back, ok, a, "RowTilt", tilted, -first, -slope)
			}
		}
	}
}

func TestPromise9(t *testing.T) {
	for _, a := range fewRows() {
		for _, b := range fewRows() {
			high, ok := impl.RowHigh(a, b)
			if !ok {
				continue
			}
			if !impl.RowBelow(a, high) || !impl.RowBelow(b, high) {
				t.Fatalf("RowHigh of %v and %v returned %v", a, b, high)
			}
			if impl.RowBent(a) && impl.RowBent(b) && !impl.RowBent(high) {
				t.Fatalf("RowBent does not hold for RowHigh of %v and %v", a, b)
			}
		}
	}
}

func TestPromise10(t *testing.T) {
	for _, a := range fewRows() {
		for _, b := range fewRows() {
			low, ok := impl.RowLow(a, b)
			if !ok {
				continue
			}
			if !impl.RowBelow(low, a) || !impl.RowBelow(low, b) {
				t.Fatalf("RowLow of %v and %v returned %v", a, b, low)
			}
			high, ok := impl.RowHigh(a, b)
			if !ok {
				t.Fatalf("RowHigh of %v and %v failed", a, b)
			}
			for i := range a {
				if low[i]+high[i] != a[i]+b[i] {
					t.Fatalf("RowLow and RowHigh of %v and %v returned %v and %v", a, b, low, high)
				}
			}
		}
	}
}

func TestPromise11(t *testing.T) {
	for _, a := range manyRows() {
		least, first, last, ok := impl.RowLeast(a)
		if !ok || first < 0 || last < first || last >= len(a) || a[first] != least || a[last] != least {
			t.Fatalf("RowLeast of %v returned %d, %d, %d, %t", a, least, first, last, ok)
		}
		for i, x := range a {
			outer := i < first || i > last
			if x < least || x == least && outer || x != least && !outer && impl.RowBent(a) {
				t.Fatalf("RowLeast of %v returned %d, %d and %d", a, least, first, last)
			}
		}
	}
}

func TestPromise12(t *testing.T) {
	for _, a := range manyRows() {
		for from := range a {
			for to := from; to < len(a); to++ {
				part, ok := impl.RowPart(a, from, to)
				if !ok || len(part) != to-from+1 {
					t.Fatalf("RowPart of %v, %d and %d returned %v, %t", a, from, to, part, ok)
				}
				if impl.RowBent(a) && !impl.RowBent(part) {
					t.Fatalf("RowBent does not hold for %v, a part of %v", part, a)
				}
			}
		}
	}
}
