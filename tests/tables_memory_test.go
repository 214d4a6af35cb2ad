package tests

import (
	"sync"
	"testing"

	"loop.example/bentrows/impl"
)

// tableCall is a function with its numbers filled in; it returns the lists that the function makes, a number among them in a list of its own.
type tableCall struct {
	name string
	call func(t [][]int, u [][]int, rows []int, columns []int) [][]int
}

func tableCalls() []tableCall {
	return []tableCall{
		{"TableCrossed", func(t [][]int, u [][]int, rows []int, columns []int) [][]int {
			return [][]int{told(impl.TableCrossed(t))}
		}},
		{"TableOf of one row", func(t [][]int, u [][]int, rows []int, columns []int) [][]int {
			x, _ := impl.TableOf(1, len(rows), rows)
			return x
		}},
		{"TableOf of one column", func(t [][]int, u [][]int, rows []int, columns []int) [][]int {
			x, _ := impl.TableOf(len(rows), 1, rows)
			return x
		}},
		{"TableOf", func(t [][]int, u [][]int, rows []int, columns []int) [][]int {
			x, _ := impl.TableOf(2, len(rows)-1, rows)
			return x
		}},
		{"TableLeast", func(t [][]int, u [][]int, rows []int, columns []int) [][]int {
			x, _ := impl.TableLeast(t)
			return [][]int{x}
		}},
		{"TableQuick", func(t [][]int, u [][]int, rows []int, columns []int) [][]int {
			x, _ := impl.TableQuick(t)
			return [][]int{x}
		}},
		{"TableMerge", func(t [][]int, u [][]int, rows []int, columns []int) [][]int {
			x, _ := impl.TableMerge(t, u)
			return x
		}},
		{"TableMerge with itself", func(t [][]int, u [][]int, rows []int, columns []int) [][]int {
			x, _ := impl.TableMerge(t, t)
			return x
		}},
		{"TableMatch", func(t [][]int, u [][]int, rows []int, columns []int) [][]int {
			n, x, _ := impl.TableMatch(t)
			return [][]int{{n}, x}
		}},
		{"TableLoad", func(t [][]int, u [][]int, rows []int, columns []int) [][]int {
			x, _ := impl.TableLoad(t, rows, columns)
			return x
		}},
		{"TableCost", func(t [][]int, u [][]int, rows []int, columns []int) [][]int {
			n, _ := impl.TableCost(t, u)
			return [][]int{{n}}
		}},
		{"TableCost of itself", func(t [][]int, u [][]int, rows []int, columns []int) [][]int {
			n, _ := impl.TableCost(t, t)
			return [][]int{{n}}
		}},
		{"TableBetter", func(t [][]int, u [][]int, rows []int, columns []int) [][]int {
			n, _ := impl.TableBetter(t, rows, columns)
			return [][]int{{n}}
		}},
	}
}

// tableArgs are the arguments of a call, whose tables and lists have room behind them.
type tableArgs struct {
	t, u          [][]int
	rows, columns []int
}

func (a tableArgs) roomy() tableArgs {
	return tableArgs{roomyTable(a.t), roomyTable(a.u), roomy(a.rows), roomy(a.columns)}
}

// roomyTable returns a copy of a table with room behind its rows, and behind each one of them.
func roomyTable(t [][]int) [][]int {
	var rows [][]int
	for _, a := range t {
		rows = append(rows, roomy(a))
	}
	return roomyLists(rows)
}

// lists returns all lists that a careless call may change, each one with the room behind it.
func (a tableArgs) lists() [][]int {
	all := [][]int{whole(a.rows), whole(a.columns)}
	for _, t := range [][][]int{a.t, a.u} {
		for _, list := range t[:len(t)+2] {
			all = append(all, whole(list))
		}
	}
	return all
}

func (a tableArgs) call(c tableCall) [][]int {
	return c.call(a.t, a.u, a.rows, a.columns)
}

func memoryTables() []tableArgs {
	return []tableArgs{
		{[][]int{{1, 4}, {0, 1}}, [][]int{{0, 9}, {2, 3}}, []int{2, 1}, []int{1, 2}},
		{[][]int{{4, 1}, {1, 0}}, [][]int{{1, 1}, {0, 1}}, []int{0, 4}, []int{4, 0}},
		{[][]int{{7}}, [][]int{{8}}, []int{3}, []int{3}},
		{[][]int{{3, 1, 2}}, [][]int{{0}, {5}, {1}}, []int{6}, []int{1, 2, 3}},
		{[][]int{{3}, {1}, {2}}, [][]int{{1, 0, 5}}, []int{1, 2, 3}, []int{6}},
		{steady(6, 6, 0), steady(6, 6, 9), filled(6, 9), filled(6, 9)},
		{crossedOne(3, 3, 5, 4), steady(3, 3, 2), []int{0, 8, 0}, []int{2, 3, 3}},
		{[][]int{{1, 2}, {3}}, [][]int{{1}, {2, 3}}, []int{10}, []int{-1}},
		{[][]int{{1001}}, [][]int{{-1}}, []int{1001}, []int{1000}},
		{steady(7, 7, 1), steady(1, 7, 1), filled(7, 1), filled(7, 1)},
		{nil, nil, nil, nil},
	}
}

// question returns a call with a copy of these arguments.
func (a tableArgs) question(c tableCall) question {
	args := a.roomy()
	return question{c.name, a, args.lists, func() [][]int { return args.call(c) }}
}

func TestTableArgumentsStay(t *testing.T) {
	for _, c := range tableCalls() {
		for _, m := range memoryTables() {
			wantArgumentsStay(t, m.question(c))
		}
	}
}

// TestTableRowsStay overwrites each row of a result, with the room behind it; the others stay.
func TestTableRowsStay(t *testing.T) {
	for _, c := range tableCalls() {
		for _, m := range memoryTables() {
			args := m.roomy()
			result := args.call(c)
			kept := clonedLists(result)
			for i, a := range result {
				scribble(a)
				if !sameTable(result[i+1:], kept[i+1:]) {
					t.Errorf("rows of the result of %s of %v share memory", c.name, m)
				}
			}
		}
	}
}

func TestTableResultsStay(t *testing.T) {
	for _, c := range tableCalls() {
		for _, m := range memoryTables() {
			wantResultsStay(t, func() question { return m.question(c) })
		}
	}
}

// TestOneTableTwice takes one table whose rows are one list, and tables that share rows, as both arguments.
func TestOneTableTwice(t *testing.T) {
	a := []int{0, 1, 4}
	same := [][]int{a, a, a}
	got, ok := impl.TableMerge(same, same)
	wantTable(t, got, ok, [][]int{{0, 1, 4}, {0, 1, 4}, {0, 1, 4}}, "TableMerge", same, same)
	cost, ok := impl.TableCost(same, same)
	wantNumber(t, cost, ok, 51, true, "TableCost", same, same)
	got, ok = impl.TableLoad(same, a, a)
	wantTable(t, got, ok, [][]int{{0, 0, 0}, {0, 1, 0}, {0, 0, 4}}, "TableLoad", same, a, a)
	least, ok := impl.TableBetter(same, a, a)
	wantNumber(t, least, ok, 17, true, "TableBetter", same, a, a)
	overlapping := [][]int{a[:2], a[1:]}
	got, ok = impl.TableMerge(overlapping, overlapping[:2])
	wantTable(t, got, ok, [][]int{{0, 1}, {1, 2}}, "TableMerge", overlapping, overlapping)
	wantList(t, a, true, []int{0, 1, 4}, "the list of the entries")
}

func TestTablesAtOnce(t *testing.T) {
	var askers sync.WaitGroup
	for _, c := range tableCalls() {
		for _, m := range memoryTables() {
			wantSameAtOnce(t, &askers, m.question(c))
		}
	}
	askers.Wait()
}
