package tests

import (
	"testing"

	"loop.example/bentrows/impl"
)

// told returns a bool as a list, so that it is compared from call to call.
func told(holds bool) []int {
	if holds {
		return []int{1}
	}
	return []int{0}
}

func valleyCalls() []rowCall {
	return []rowCall{
		{"ValleyOne", func(a []int, b []int) []int { return told(impl.ValleyOne(a)) }},
		{"ValleySearch", func(a []int, b []int) []int { i, _ := impl.ValleySearch(a); return []int{i} }},
		{"ValleyCost", func(a []int, b []int) []int { n, _ := impl.ValleyCost(a); return []int{n} }},
		{"HillRound", func(a []int, b []int) []int { return told(impl.HillRound(a)) }},
		{"HillFold", func(a []int, b []int) []int { x, _ := impl.HillFold(a, b); return x }},
		{"HillFold with 1", func(a []int, b []int) []int { x, _ := impl.HillFold(a, []int{1}); return x }},
		{"HillFold of 1", func(a []int, b []int) []int { x, _ := impl.HillFold([]int{1}, a); return x }},
		{"HillTop", func(a []int, b []int) []int { i, k, _ := impl.HillTop(a); return []int{i, k} }},
		{"HillRaise", func(a []int, b []int) []int { x, _ := impl.HillRaise(a); return x }},
	}
}

// TestValleysStay asks again and again about a row, and about others in between; it is neither put in order nor turned.
func TestValleysStay(t *testing.T) {
	valley, hill := roomy([]int{9, 5, 5, 1, 2, 2}), roomy([]int{0, 1, 3, 3, 1})
	for range 3 {
		wantSearch(t, valley, 3, true)
		wantCost(t, []int{1, 0, 1, 0, 1}, 1, true)
		wantCost(t, valley, 0, true)
		wantSearch(t, []int{7, 8}, 0, true)
		wantTop(t, hill, 2, 3, true)
		got, ok := impl.HillRaise(hill)
		wantList(t, got, ok, []int{0, 4, 18, 12, 1}, "HillRaise", hill)
		got, ok = impl.HillRaise([]int{1, 1})
		wantList(t, got, ok, []int{1, 1}, "HillRaise", []int{1, 1})
	}
	wantList(t, whole(valley)[:9], true, []int{9, 5, 5, 1, 2, 2, 77, 78, 79}, "the room of the row")
	wantList(t, whole(hill)[:8], true, []int{0, 1, 3, 3, 1, 77, 78, 79}, "the room of the hill")
}

// TestFoldsOfOneList takes one list, and overlapping ones, as both hills.
func TestFoldsOfOneList(t *testing.T) {
	a := []int{1, 2, 0, 3}
	got, ok := impl.HillFold(a, a)
	wantList(t, got, ok, []int{1, 4, 4, 6, 12, 0, 9}, "HillFold", a, a)
	got, ok = impl.HillFold(a[:2], a[1:])
	wantList(t, got, ok, []int{2, 4, 3, 6}, "HillFold", a[:2], a[1:])
}
