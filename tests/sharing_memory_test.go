package tests

import (
	"slices"
	"sync"
	"testing"

	"loop.example/bentrows/impl"
)

// shareCall is a function that is asked about rows and a list or its sum; it returns the lists that the function makes, numbers among them in a list of their own.
type shareCall struct {
	name string
	call func(rows [][]int, list []int) [][]int
}

func shareCalls() []shareCall {
	return []shareCall{
		{"ShareTry", func(rows [][]int, list []int) [][]int {
			cost, x, ok := impl.ShareTry(rows, sumOf(list))
			return [][]int{{cost}, x, told(ok)}
		}},
		{"ShareTry of 0", func(rows [][]int, list []int) [][]int {
			cost, x, ok := impl.ShareTry(rows, 0)
			return [][]int{{cost}, x, told(ok)}
		}},
		{"ShareGreedy", func(rows [][]int, list []int) [][]int {
			x, ok := impl.ShareGreedy(rows, sumOf(list))
			return [][]int{x, told(ok)}
		}},
		{"ShareGreedy of 0", func(rows [][]int, list []int) [][]int {
			x, ok := impl.ShareGreedy(rows, 0)
			return [][]int{x, told(ok)}
		}},
		{"ShareCost", func(rows [][]int, list []int) [][]int {
			cost, ok := impl.ShareCost(rows, list)
			return [][]int{{cost}, told(ok)}
		}},
		{"SharePrice", func(rows [][]int, list []int) [][]int {
			low, high, ok := impl.SharePrice(rows, list)
			return [][]int{{low, high}, told(ok)}
		}},
		{"ShareMoves", func(rows [][]int, list []int) [][]int {
			moves, ok := impl.ShareMoves(rows, list)
			return [][]int{{moves}, told(ok)}
		}},
		{"ShareCosts", func(rows [][]int, list []int) [][]int {
			x, ok := impl.ShareCosts(rows)
			return [][]int{x, told(ok)}
		}},
		{"ShareAll", func(rows [][]int, list []int) [][]int {
			count, ok := impl.ShareAll(rows, sumOf(list))
			return [][]int{{count}, told(ok)}
		}},
	}
}

// shareArgs are the arguments of a call.
type shareArgs struct {
	rows [][]int
	list []int
}

// roomy returns the arguments with room behind the rows, behind each one of them and behind the list.
func (a shareArgs) roomy() shareArgs {
	return shareArgs{roomyTable(a.rows), roomy(a.list)}
}

// lists returns all lists that a careless call may change, each one with the room behind it.
func (a shareArgs) lists() [][]int {
	all := [][]int{whole(a.list)}
	for _, list := range a.rows[:len(a.rows)+2] {
		all = append(all, whole(list))
	}
	return all
}

func memorySharings() []shareArgs {
	return []shareArgs{
		{[][]int{{0, 1, 4}, {0, 2}}, []int{1, 1}},
		{[][]int{{0, 1, 4}, {0, 2}}, []int{2, 0}},
		{[][]int{{4, 1, 0}, {7}, {0, 0, 1}, {3, 2, 2}}, []int{0, 0, 2, 1}},
		{[][]int{{0, 5, 0}, {0, 9, 3}}, []int{1, 1}},
		{[][]int{{9, 3, 1, 2, 8}}, []int{3}},
		{[][]int{{7}}, []int{0}},
		{[][]int{filled(rowMax, 3)}, []int{11}},
		{slices.Repeat([][]int{filled(rowMax, 1000)}, sharersMax), []int{11, 0, 11, 11}},
		{[][]int{{0, 1}, {0, 2}}, []int{1, 1, 0}},
		{[][]int{{0, 1}, {1001}}, []int{1, 0}},
		{[][]int{{0, 1}, {0, 2}}, []int{-1, 2}},
		{steady(5, 2, 0), filled(5, 1)},
		{nil, nil},
	}
}

// question returns a call with a copy of these arguments.
func (a shareArgs) question(c shareCall) question {
	args := a.roomy()
	return question{c.name, a, args.lists, func() [][]int { return c.call(args.rows, args.list) }}
}

func TestShareArgumentsStay(t *testing.T) {
	for _, c := range shareCalls() {
		for _, m := range memorySharings() {
			wantArgumentsStay(t, m.question(c))
		}
	}
}

func TestShareResultsStay(t *testing.T) {
	for _, c := range shareCalls() {
		for _, m := range memorySharings() {
			wantResultsStay(t, func() question { return m.question(c) })
		}
	}
}

// TestSharingOfOneList takes one list as all rows and as the list of places, and rows that overlap.
func TestSharingOfOneList(t *testing.T) {
	a := []int{0, 1, 2}
	rows := [][]int{a, a, a}
	wantTry(t, rows, 3, 3, []int{0, 1, 2})
	list, ok := impl.ShareGreedy(rows, 3)
	wantList(t, list, ok, []int{2, 1, 0}, "ShareGreedy", rows, 3)
	cost, ok := impl.ShareCost(rows, a)
	wantNumber(t, cost, ok, 3, true, "ShareCost", rows, a)
	low, high, ok := impl.SharePrice(rows, a)
	wantTwo(t, low, high, ok, 1, 1, true, "SharePrice", rows, a)
	moves, ok := impl.ShareMoves(rows, a)
	wantNumber(t, moves, ok, 0, true, "ShareMoves", rows, a)
	count, ok := impl.ShareAll(rows, 3)
	wantNumber(t, count, ok, 7, true, "ShareAll", rows, 3)
	overlapping := [][]int{a[:2], a[1:]}
	costs, ok := impl.ShareCosts(overlapping)
	wantList(t, costs, ok, []int{1, 2, 3}, "ShareCosts", overlapping)
	wantList(t, a, true, []int{0, 1, 2}, "the list of the entries")
}

func TestSharingsAtOnce(t *testing.T) {
	var askers sync.WaitGroup
	for _, c := range shareCalls() {
		for _, m := range memorySharings() {
			wantSameAtOnce(t, &askers, m.question(c))
		}
	}
	askers.Wait()
}
