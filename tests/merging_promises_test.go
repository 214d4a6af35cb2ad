package tests

import (
	"slices"
	"testing"

	"loop.example/bentrows/impl"
)

func TestPromise28(t *testing.T) {
	succeeded := 0
	for _, a := range mergeRows() {
		for _, b := range mergeRows() {
			merged, ok := impl.MergeTry(a, b)
			other, alsoOk := impl.MergeTry(b, a)
			if ok != alsoOk || !slices.Equal(merged, other) {
				t.Fatalf("MergeTry of %v and %v returned %v, %t, and exchanged %v, %t", a, b, merged, ok, other, alsoOk)
			}
			if !ok {
				continue
			}
			succeeded++
			if len(merged) != len(a)+len(b)-1 {
				t.Fatalf("MergeTry of %v and %v returned %v", a, b, merged)
			}
			if impl.RowBent(a) && impl.RowBent(b) && !impl.RowBent(merged) {
				t.Fatalf("MergeTry of the bent rows %v and %v returned %v", a, b, merged)
			}
		}
	}
	if succeeded < 10000 {
		t.Fatalf("MergeTry succeeded only %d times", succeeded)
	}
}

func TestPromise29(t *testing.T) {
	succeeded := 0
	for _, a := range mergeRows() {
		for _, b := range mergeRows() {
			merged, ok := impl.MergeTry(a, b)
			if !ok {
				continue
			}
			succeeded++
			for s := -5; s <= 5; s++ {
				if mustFall(t, merged, s) != mustFall(t, a, s)+mustFall(t, b, s) {
					t.Fatalf("LineFall for %d of %v, to which %v and %v are merged, is not the sum of theirs", s, merged, a, b)
				}
			}
		}
	}
	if succeeded < 10000 {
		t.Fatalf("MergeTry succeeded only %d times", succeeded)
	}
}

func TestPromise30(t *testing.T) {
	succeeded := 0
	for _, a := range bentMergeRows() {
		for _, b := range bentMergeRows() {
			merged, ok := impl.MergeSlopes(a, b)
			tried, alsoOk := impl.MergeTry(a, b)
			if ok != alsoOk || !slices.Equal(merged, tried) {
				t.Fatalf("MergeSlopes of %v and %v returned %v, %t, and MergeTry %v, %t", a, b, merged, ok, tried, alsoOk)
			}
			if ok {
				succeeded++
			}
		}
	}
	if succeeded < 1000 {
		t.Fatalf("MergeSlopes succeeded only %d times", succeeded)
	}
}

func TestPromise31(t *testing.T) {
	succeeded := 0
	for _, a := range mergeRows() {
		for _, b := range mergeRows() {
			first, ok := impl.MergeFirst(a, b)
			merged, alsoOk := impl.MergeTry(a, b)
			if ok != alsoOk || len(first) != len(merged) {
				t.Fatalf("MergeFirst of %v and %v returned %v, %t, and MergeTry %v, %t", a, b, first, ok, merged, alsoOk)
			}
			for k, i := range first {
				if i < 0 || i >= len(a) || k-i < 0 || k-i >= len(b) || a[i]+b[k-i] != merged[k] {
					t.Fatalf("MergeFirst of %v and %v returned %v: %d does not lead to the entry at %d of %v", a, b, first, i, k, merged)
				}
			}
			if ok {
				succeeded++
			}
		}
	}
	if succeeded < 10000 {
		t.Fatalf("MergeFirst succeeded only %d times", succeeded)
	}
}

// TestPromise31Bent takes bent rows, for which the places go up one by one at most.
func TestPromise31Bent(t *testing.T) {
	succeeded := 0
	for _, a := range bentMergeRows() {
		for _, b := range bentMergeRows() {
			first, ok := impl.MergeFirst(a, b)
			if !ok {
				continue
			}
			succeeded++
			for k := 1; k < len(first); k++ {
				if first[k] < first[k-1] || first[k] > first[k-1]+1 {
					t.Fatalf("MergeFirst of the bent rows %v and %v returned %v", a, b, first)
				}
			}
		}
	}
	if succeeded < 1000 {
		t.Fatalf("MergeFirst succeeded only %d times", succeeded)
	}
}

func TestPromise32(t *testing.T) {
	succeeded := make([]int, timesMax+1)
	for _, a := range append(manyRows(), mergeRows()...) {
		once, ok := impl.MergeTimes(a, 1)
		if !ok || !slices.Equal(once, a) {
			t.Fatalf("MergeTimes of %v and 1 returned %v, %t", a, once, ok)
		}
		for k := 2; k <= timesMax; k++ {
			merged, ok := impl.MergeTimes(a, k)
			if !ok {
				continue
			}
			succeeded[k]++
			fewer, ok := impl.MergeTimes(a, k-1)
			if !ok {
				t.Fatalf("MergeTimes of %v succeeded for %d, but not for %d", a, k, k-1)
			}
			if tried, ok := impl.MergeTry(fewer, a); !ok || !slices.Equal(merged, tried) {
				t.Fatalf("MergeTimes of %v and %d returned %v, but MergeTry with that of %d %v, %t", a, k, merged, k-1, tried, ok)
			}
		}
	}
	if slices.Min(succeeded[2:]) < 20 {
		t.Fatalf("MergeTimes succeeded only %v times", succeeded)
	}
}

func TestPromise33(t *testing.T) {
	succeeded := make([]int, manyMax+1)
	for _, rows := range someLists() {
		merged, ok := impl.MergeMany(rows)
		if !ok {
			continue
		}
		backwards := slices.Clone(rows)
		slices.Reverse(backwards)
		other, ok := impl.MergeMany(backwards)
		if !ok {
			continue
		}
		succeeded[len(rows)]++
		if !slices.Equal(merged, other) {
			t.Fatalf("MergeMany of %v returned %v, and backwards %v", rows, merged, other)
		}
	}
	if slices.Min(succeeded[1:]) < 10 {
		t.Fatalf("MergeMany succeeded only %v times", succeeded)
	}
}

func TestPromise34(t *testing.T) {
	succeeded := 0
	for _, c := range mergeRows() {
		for _, a := range mergeRows() {
			rest, ok := impl.MergeRest(c, a)
			if !ok {
				continue
			}
			merged, ok := impl.MergeTry(a, rest)
			if !ok {
				continue
			}
			succeeded++
			if !impl.RowBelow(c, merged) {
				t.Fatalf("MergeRest of %v and %v returned %v, but merged to %v it is less", c, a, rest, merged)
			}
			for k := range rest {
				lesser := slices.Clone(rest)
				lesser[k]--
				if isBelow(c, mergedOf(a, lesser)) {
					t.Fatalf("MergeRest of %v and %v returned %v, but %v is enough", c, a, rest, lesser)
				}
			}
		}
	}
	if succeeded < 10000 {
		t.Fatalf("MergeRest and MergeTry succeeded only %d times", succeeded)
	}
}

func TestPromise35(t *testing.T) {
	tilted := 0
	for _, a := range unitRows() {
		unit, ok := impl.MergeUnit(a)
		if !ok || unit < 0 {
			t.Fatalf("MergeUnit of %v returned %d, %t", a, unit, ok)
		}
		raised, ok := impl.RowTilt(a, unit, 0)
		if !ok {
			continue
		}
		tilted++
		if least, _, _, ok := impl.RowLeast(raised); !ok || least != 0 {
			t.Fatalf("MergeUnit of %v returned %d, but the least entry of %v is %d", a, unit, raised, least)
		}
	}
	if tilted < 1000 {
		t.Fatalf("RowTilt succeeded only %d times", tilted)
	}
}

func TestPromise36(t *testing.T) {
	succeeded, compared := 0, 0
	for _, a := range append(manyRows(), mergeRows()...) {
		twice, told := impl.MergeTimes(a, 2)
		for n := 1; n <= len(a); n++ {
			half, ok := impl.MergeHalf(a, n)
			if told && !ok {
				t.Fatalf("MergeHalf of %v and %d failed, but MergeTimes of 2 is %v", a, n, twice)
			}
			if !ok {
				continue
			}
			succeeded++
			if len(half) != n || impl.RowBent(a) && !impl.RowBent(half) {
				t.Fatalf("MergeHalf of %v and %d returned %v", a, n, half)
			}
			if told {
				compared++
				if !slices.Equal(half, twice[:n]) {
					t.Fatalf("MergeHalf of %v and %d returned %v, but MergeTimes of 2 is %v", a, n, half, twice)
				}
			}
		}
	}
	if compared < 1000 || succeeded <= compared {
		t.Fatalf("MergeHalf succeeded only %d times, and %d times with MergeTimes", succeeded, compared)
	}
}
