package tests

import (
	"slices"
	"sync"
	"testing"

	"loop.example/bentrows/impl"
)

func evenCalls() []pairCall {
	return []pairCall{
		{"EvenIs", func(a []int, b []int) [][]int {
			return [][]int{told(impl.EvenIs(a, b))}
		}},
		{"EvenLevels", func(a []int, b []int) [][]int {
			x, ok := impl.EvenLevels(a)
			return append(x, told(ok))
		}},
		{"EvenMost", func(a []int, b []int) [][]int {
			x, ok := impl.EvenMost(a)
			return [][]int{x, told(ok)}
		}},
		{"EvenSteps", func(a []int, b []int) [][]int {
			n, ok := impl.EvenSteps(a)
			return [][]int{{n}, told(ok)}
		}},
		{"EvenSum", func(a []int, b []int) [][]int {
			n, ok := impl.EvenSum(a, b)
			return [][]int{{n}, told(ok)}
		}},
		{"EvenMeet", func(a []int, b []int) [][]int {
			x, ok := impl.EvenMeet(a, b)
			return [][]int{x, told(ok)}
		}},
		{"EvenMeet of itself", func(a []int, b []int) [][]int {
			x, ok := impl.EvenMeet(a, a)
			return [][]int{x, told(ok)}
		}},
	}
}

func memoryEvens() [][2][]int {
	return append(memoryPairs(), [][2][]int{
		{{4, 0}, {3, 1}},
		{{0, 4, 2}, {1, 3, 2}},
		{{1, 3, 5, 7}, {0, 7, 0, 9}},
		{{3, 3, 3}, {4, 2, 3}},
		{{4, 1, 0, 1}, {3, 0, 2, 1}},
		{counted(rowMax, 0, 1), counted(rowMax, 11, -1)},
		{filled(rowMax, 3), filled(rowMax+1, 0)},
		{{0, 1, 0}, {0}},
		{{0, 1}, {2}},
		{nil, {0}},
	}...)
}

func TestEvenArgumentsStay(t *testing.T) {
	for _, c := range evenCalls() {
		for _, p := range memoryEvens() {
			wantArgumentsStay(t, c.question(p))
		}
	}
}

func TestEvenResultsStay(t *testing.T) {
	for _, c := range evenCalls() {
		for _, p := range memoryEvens() {
			wantResultsStay(t, func() question { return c.question(p) })
		}
	}
}

// TestLevelsStay overwrites each levelled row, with the room behind it, and puts something behind it; the others stay.
func TestLevelsStay(t *testing.T) {
	for _, a := range unevenRows() {
		levels, ok := impl.EvenLevels(a)
		want := levelsOf(a)
		wantRows(t, levels, ok, want, "EvenLevels", a)
		for i, level := range levels {
			scribble(append(level, 5, 6, 7)[len(level):])
			scribble(level)
			level[0] = -54321
			if !sameTable(levels[i+1:], want[i+1:]) {
				t.Fatalf("rows of EvenLevels of %v share memory", a)
			}
		}
		for i, level := range levels {
			if level[0] != -54321 {
				t.Fatalf("the row %d of EvenLevels of %v shares memory with one behind it", i, a)
			}
		}
	}
}

// TestEvensOfOneList takes one list, and overlapping ones, as both arguments.
func TestEvensOfOneList(t *testing.T) {
	a := []int{0, 1, 2, 1, 0}
	wantEven(t, a, a, true)
	wantEven(t, a[:3], a[2:], true)
	wantEven(t, a[1:4], a[:3], false)
	wantMeet(t, a, a, []int{2, 1, 1, 0, 0})
	wantMeet(t, a[:3], a[2:], []int{2, 1, 0})
	sum, ok := impl.EvenSum(a[:3], a[:3])
	wantNumber(t, sum, ok, 3, true, "EvenSum", a[:3], a[:3])
	sum, ok = impl.EvenSum(a[:2], a[3:])
	wantNumber(t, sum, ok, 1, true, "EvenSum", a[:2], a[3:])
	wantLevels(t, a, [][]int{{1, 1, 1, 1, 0}})
	wantMost(t, a, []int{1, 1, 1, 1, 0})
	wantSteps(t, a, 1)
	if !slices.Equal(a, []int{0, 1, 2, 1, 0}) {
		t.Fatalf("the list of the entries has become %v", a)
	}
}

func TestEvensAtOnce(t *testing.T) {
	var askers sync.WaitGroup
	for _, c := range evenCalls() {
		for _, p := range memoryEvens() {
			wantSameAtOnce(t, &askers, c.question(p))
		}
	}
	askers.Wait()
}
