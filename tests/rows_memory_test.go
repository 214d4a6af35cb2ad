package tests

import (
	"slices"
	"testing"

	"loop.example/bentrows/impl"
)

// rowCall is a function with its numbers filled in; it returns the list that the function makes, if any.
type rowCall struct {
	name string
	call func(a []int, b []int) []int
}

func rowCalls() []rowCall {
	return []rowCall{
		{"RowIn", func(a []int, b []int) []int { impl.RowIn(a); return nil }},
		{"RowSlopes", func(a []int, b []int) []int { x, _ := impl.RowSlopes(a); return x }},
		{"RowFrom", func(a []int, b []int) []int { x, _ := impl.RowFrom(1, a); return x }},
		{"RowBent", func(a []int, b []int) []int { impl.RowBent(a); return nil }},
		{"RowSum", func(a []int, b []int) []int { x, _ := impl.RowSum(a, b); return x }},
		{"RowTimes", func(a []int, b []int) []int { x, _ := impl.RowTimes(a, 1); return x }},
		{"RowTimes by 0", func(a []int, b []int) []int { x, _ := impl.RowTimes(a, 0); return x }},
		{"RowBack", func(a []int, b []int) []int { x, _ := impl.RowBack(a); return x }},
		{"RowTilt", func(a []int, b []int) []int { x, _ := impl.RowTilt(a, 0, 0); return x }},
		{"RowHigh", func(a []int, b []int) []int { x, _ := impl.RowHigh(a, b); return x }},
		{"RowLow", func(a []int, b []int) []int { x, _ := impl.RowLow(a, b); return x }},
		{"RowLeast", func(a []int, b []int) []int { impl.RowLeast(a); return nil }},
		{"RowBelow", func(a []int, b []int) []int { impl.RowBelow(a, b); return nil }},
		{"RowPart", func(a []int, b []int) []int { x, _ := impl.RowPart(a, 0, len(a)-1); return x }},
		{"RowPart of one", func(a []int, b []int) []int { x, _ := impl.RowPart(a, 0, 0); return x }},
	}
}

// allCalls returns the calls of all chapters.
func allCalls() []rowCall {
	return slices.Concat(rowCalls(), lineCalls(), mergeCalls(), valleyCalls())
}

// roomy returns a copy of a list with room behind it that a careless append would fill.
func roomy(a []int) []int {
	return append(slices.Clone(a), 77, 78, 79)[:len(a)]
}

// whole returns a list with the room behind it.
func whole(a []int) []int {
	return a[:cap(a)]
}

// scribble overwrites a list and the room behind it.
func scribble(a []int) {
	for i := range whole(a) {
		whole(a)[i] = -12345
	}
}

func memoryPairs() [][2][]int {
	return [][2][]int{
		{{0, 1, 4}, {2, -3, 5}},
		{{0, 1, 4}, {0, 1, 4}},
		{{5}, {6}},
		{{1, 2}, {3}},
		{filled(rowMax, 3), counted(rowMax, 0, 1)},
		{filled(rowMax-1, 3), counted(rowMax-1, 0, 1)},
		{filled(rowMax+1, 3), counted(rowMax+1, 0, 1)},
		{{1001, 0}, {0, 1001}},
		{{}, {}},
	}
}

func TestArgumentsStay(t *testing.T) {
	for _, c := range allCalls() {
		for _, p := range memoryPairs() {
			a, b := roomy(p[0]), roomy(p[1])
			wholeA, wholeB := slices.Clone(whole(a)), slices.Clone(whole(b))
			result := c.call(a, b)
			if !slices.Equal(whole(a), wholeA) || !slices.Equal(whole(b), wholeB) {
				t.Errorf("%s changed its arguments %v and %v", c.name, p[0], p[1])
			}
			scribble(result)
			if !slices.Equal(whole(a), wholeA) || !slices.Equal(whole(b), wholeB) {
				t.Errorf("the result of %s shares memory with %v or %v", c.name, p[0], p[1])
			}
		}
	}
}

func TestResultsStay(t *testing.T) {
	for _, c := range allCalls() {
		for _, p := range memoryPairs() {
			a, b := roomy(p[0]), roomy(p[1])
			first := c.call(a, b)
			kept := slices.Clone(first)
			second := c.call(a, b)
			if !slices.Equal(second, kept) {
				t.Errorf("%s of %v and %v returned %v and then %v", c.name, p[0], p[1], kept, second)
			}
			scribble(second)
			scribble(a)
			scribble(b)
			if !slices.Equal(first, kept) {
				t.Errorf("the results of %s of %v and %v share memory", c.name, p[0], p[1])
			}
		}
	}
}

// TestOneListTwice takes one list, and overlapping ones, as both arguments.
func TestOneListTwice(t *testing.T) {
	a := []int{3, -1, 4, 1}
	got, ok := impl.RowSum(a, a)
	wantList(t, got, ok, []int{6, -2, 8, 2}, "RowSum", a, a)
	got, ok = impl.RowSum(a[:3], a[1:])
	wantList(t, got, ok, []int{2, 3, 5}, "RowSum", a[:3], a[1:])
	got, ok = impl.RowHigh(a[:3], a[1:])
	wantList(t, got, ok, []int{3, 4, 4}, "RowHigh", a[:3], a[1:])
	got, ok = impl.RowLow(a[:3], a[1:])
	wantList(t, got, ok, []int{-1, -1, 1}, "RowLow", a[:3], a[1:])
	if !impl.RowBelow(a, a) {
		t.Errorf("RowBelow does not hold for %v and itself", a)
	}
}
