package tests

import (
	"runtime"
	"slices"
	"sync"
	"testing"
	"time"
)

// question is a function with its arguments, which have room behind them.
type question struct {
	name string
	args any
	// lists returns all lists that a careless call may change, each one with the room behind it.
	lists func() [][]int
	// ask returns the lists that the function makes, numbers among them in a list of their own.
	ask func() [][]int
}

// pairCall is a function that is asked about two lists; it returns the lists that the function makes, numbers among them in a list of their own.
type pairCall struct {
	name string
	call func(a []int, b []int) [][]int
}

// question returns the call with a copy of two lists, with room behind them.
func (c pairCall) question(p [2][]int) question {
	a, b := roomy(p[0]), roomy(p[1])
	lists := func() [][]int { return [][]int{whole(a), whole(b)} }
	return question{c.name, p, lists, func() [][]int { return c.call(a, b) }}
}

// clonedLists returns a copy of lists, nil ones among them.
func clonedLists(lists [][]int) [][]int {
	var all [][]int
	for _, a := range lists {
		all = append(all, slices.Clone(a))
	}
	return all
}

// wantArgumentsStay checks that a call changes no argument, and that overwriting its result changes none.
func wantArgumentsStay(t *testing.T, q question) {
	t.Helper()
	kept := clonedLists(q.lists())
	result := q.ask()
	if !sameTable(q.lists(), kept) {
		t.Errorf("%s changed its arguments %v", q.name, q.args)
	}
	for _, a := range result {
		scribble(a)
	}
	if !sameTable(q.lists(), kept) {
		t.Errorf("the result of %s shares memory with %v", q.name, q.args)
	}
}

// wantResultsStay asks again and again, and overwrites results and arguments in between: the answer stays the same.
func wantResultsStay(t *testing.T, fresh func() question) {
	t.Helper()
	q := fresh()
	first := q.ask()
	kept := clonedLists(first)
	second := q.ask()
	if !sameTable(second, kept) {
		t.Errorf("%s of %v returned %v and then %v", q.name, q.args, kept, second)
	}
	for _, a := range slices.Concat(second, q.lists()) {
		scribble(a)
	}
	if !sameTable(first, kept) {
		t.Errorf("the results of %s of %v share memory", q.name, q.args)
	}
	if third := fresh().ask(); !sameTable(third, kept) {
		t.Errorf("%s of %v returned %v and then %v", q.name, q.args, kept, third)
	}
}

// wantSameAtOnce asks from many goroutines at once, and again and again: each answer is the same.
func wantSameAtOnce(t *testing.T, askers *sync.WaitGroup, q question) {
	want := q.ask()
	for range 4 {
		askers.Go(func() {
			for range 5 {
				if got := q.ask(); !sameTable(got, want) {
					t.Errorf("%s of %v returned %v and %v", q.name, q.args, want, got)
				}
			}
		})
	}
}

// wantNoMore checks that there are no more goroutines than before.
func wantNoMore(t *testing.T, before int) {
	t.Helper()
	// One that is joined may still be counted for a moment.
	for range 1000 {
		if runtime.NumGoroutine() <= before {
			return
		}
		time.Sleep(time.Millisecond)
	}
	t.Errorf("there are %d goroutines, and %d before", runtime.NumGoroutine(), before)
}
