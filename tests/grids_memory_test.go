package tests

import (
	"sync"
	"testing"

	"loop.example/bentrows/impl"
)

// spotCalls returns calls that ask about a spot.
func spotCalls(p spot, q spot) []tableCall {
	return []tableCall{
		{"GridLow", func(t [][]int, u [][]int, rows []int, columns []int) [][]int {
			return [][]int{told(impl.GridLow(t, p.i, p.k))}
		}},
		{"GridDown", func(t [][]int, u [][]int, rows []int, columns []int) [][]int {
			i, k, steps, ok := impl.GridDown(t, p.i, p.k)
			return [][]int{{i, k, steps}, told(ok)}
		}},
		{"GridFar", func(t [][]int, u [][]int, rows []int, columns []int) [][]int {
			steps, ok := impl.GridFar(t, p.i, p.k, q.i, q.k)
			return [][]int{{steps}, told(ok)}
		}},
	}
}

// gridCalls returns calls for which the first row of the second table is the third row of a grid.
func gridCalls() []tableCall {
	calls := []tableCall{
		{"GridMiddled", func(t [][]int, u [][]int, rows []int, columns []int) [][]int {
			return [][]int{told(impl.GridMiddled(t))}
		}},
		{"GridLeast", func(t [][]int, u [][]int, rows []int, columns []int) [][]int {
			x, i, k, ok := impl.GridLeast(t)
			return [][]int{{x, i, k}, told(ok)}
		}},
		{"GridOf", func(t [][]int, u [][]int, rows []int, columns []int) [][]int {
			if len(u) == 0 {
				return nil
			}
			x, _ := impl.GridOf(len(rows), len(columns), rows, columns, u[0])
			return x
		}},
		{"GridOf of one list", func(t [][]int, u [][]int, rows []int, columns []int) [][]int {
			if len(rows) == 0 {
				return nil
			}
			x, _ := impl.GridOf(1, len(rows), rows[:1], rows, rows)
			return x
		}},
		{"GridSum", func(t [][]int, u [][]int, rows []int, columns []int) [][]int {
			x, _ := impl.GridSum(t, u)
			return x
		}},
		{"GridSum with itself", func(t [][]int, u [][]int, rows []int, columns []int) [][]int {
			x, _ := impl.GridSum(t, t)
			return x
		}},
	}
	for _, spots := range [][2]spot{{{0, 0}, {0, 0}}, {{0, 0}, {1, 1}}, {{1, 0}, {0, 1}}, {{5, 5}, {0, 3}}, {{0, 6}, {0, 0}}, {{-1, 0}, {0, 0}}, {{1 << 62, -1 << 63}, {1, 1}}} {
		calls = append(calls, spotCalls(spots[0], spots[1])...)
	}
	return calls
}

// memoryGrids returns grids in pairs, and rows that tell one together with the first row of the second grid.
func memoryGrids() []tableArgs {
	all := []tableArgs{
		{[][]int{{2, 1}, {1, 0}}, [][]int{{0, 9}, {2, 3}}, []int{5}, []int{7, 8}},
		{[][]int{{7}}, [][]int{{8}}, []int{3}, []int{4}},
		{[][]int{{3, 1, 2}}, [][]int{{0, 5, 1}}, []int{6, 7}, []int{1, 2}},
		{[][]int{{3}, {1}, {2}}, [][]int{{0}, {5}, {1}}, []int{6}, []int{1}},
		{steady(6, 6, 500), steady(6, 6, 500), filled(6, 9), filled(1, 9)},
		{[][]int{{1000}}, [][]int{{1}}, []int{1000}, []int{0}},
		{anyOne(6, 6, 9, 1), anyOne(6, 6, 9, 2), counted(2, 0, 1), counted(5, 0, 1)},
		{[][]int{{4, 3, 9}, {9, 5, 2}, {9, 9, 1}}, [][]int{counted(11, 5, -1)}, counted(6, 0, 7), counted(6, 0, 5)},
	}
	return append(all, memoryTables()...)
}

// gridQuestions returns all calls, each with a copy of all arguments.
func gridQuestions() []func() question {
	var all []func() question
	for _, c := range gridCalls() {
		for _, m := range memoryGrids() {
			all = append(all, func() question { return m.question(c) })
		}
	}
	return all
}

func TestGridArgumentsStay(t *testing.T) {
	for _, fresh := range gridQuestions() {
		wantArgumentsStay(t, fresh())
	}
}

// TestGridRowsStay overwrites each row of a grid that was made, with the room behind it; the others stay.
func TestGridRowsStay(t *testing.T) {
	made := 0
	for _, c := range gridCalls() {
		for _, m := range memoryGrids() {
			result := m.roomy().call(c)
			kept := clonedLists(result)
			for i, a := range result {
				made++
				scribble(a)
				if !sameTable(result[i+1:], kept[i+1:]) {
					t.Errorf("rows of the result of %s of %v share memory", c.name, m)
				}
			}
		}
	}
	if made < 100 {
		t.Errorf("just %d rows were made", made)
	}
}

func TestGridResultsStay(t *testing.T) {
	for _, fresh := range gridQuestions() {
		wantResultsStay(t, fresh)
	}
}

// TestGridsInAnyOrder asks all there is to ask, and then the last thing first: the answers stay the same.
func TestGridsInAnyOrder(t *testing.T) {
	var questions []question
	var first [][][]int
	for _, fresh := range gridQuestions() {
		q := fresh()
		questions, first = append(questions, q), append(first, q.ask())
	}
	for i := len(questions) - 1; i >= 0; i-- {
		if again := questions[i].ask(); !sameTable(again, first[i]) {
			t.Errorf("%s of %v was %v and then %v", questions[i].name, questions[i].args, first[i], again)
		}
	}
}

// TestGridsOfOneList takes one list as all rows, and lists that share memory.
func TestGridsOfOneList(t *testing.T) {
	a := []int{3, 0, 1}
	same := [][]int{a, a, a}
	wantMiddled(t, same, true)
	wantLeast(t, same, 0, spot{0, 1})
	wantLow(t, same, spot{2, 1}, true)
	wantDown(t, same, spot{2, 2}, spot{1, 1}, 1)
	got, ok := impl.GridSum(same, same)
	wantTable(t, got, ok, [][]int{{6, 0, 2}, {6, 0, 2}, {6, 0, 2}}, "GridSum", same, same)
	got, ok = impl.GridSum([][]int{a[:2], a[1:]}, [][]int{a[1:], a[:2]})
	wantTable(t, got, ok, [][]int{{3, 1}, {3, 1}}, "GridSum", a)
	got, ok = impl.GridOf(2, 2, a[:2], a[1:], a)
	wantTable(t, got, ok, [][]int{{3, 5}, {3, 1}}, "GridOf", a)
	got, ok = impl.GridOf(3, 1, a, a[:1], a)
	wantTable(t, got, ok, [][]int{{7}, {3}, {7}}, "GridOf", a)
	wantList(t, a, true, []int{3, 0, 1}, "the list of the entries")
}

func TestGridsAtOnce(t *testing.T) {
	var askers sync.WaitGroup
	for _, fresh := range gridQuestions() {
		wantSameAtOnce(t, &askers, fresh())
	}
	askers.Wait()
}
