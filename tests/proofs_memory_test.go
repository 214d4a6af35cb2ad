package tests

import (
	"sync"
	"testing"

	"loop.example/bentrows/impl"
)

// sharingProofCalls returns calls for which a text is told, or one that tells a price itself.
func sharingProofCalls() []shareCall {
	calls := []shareCall{
		{"ProofShare", func(rows [][]int, list []int) [][]int {
			text, ok := impl.ProofShare(rows, sumOf(list))
			return [][]int{bytesOf(text), told(ok)}
		}},
		{"ProofShare of 0", func(rows [][]int, list []int) [][]int {
			text, ok := impl.ProofShare(rows, 0)
			return [][]int{bytesOf(text), told(ok)}
		}},
		{"ProofShareIs with ProofShare", func(rows [][]int, list []int) [][]int {
			text, _ := impl.ProofShare(rows, sumOf(list))
			return [][]int{told(impl.ProofShareIs(rows, list, text))}
		}},
	}
	for _, text := range []string{"price 2", "price 0", "price -3000", "price 3001", "price -0", "price", ""} {
		calls = append(calls, shareCall{"ProofShareIs with " + text, func(rows [][]int, list []int) [][]int {
			return [][]int{told(impl.ProofShareIs(rows, list, text))}
		}})
	}
	return calls
}

// matchProofCalls returns calls for which the list of the first amounts is a match.
func matchProofCalls() []tableCall {
	calls := []tableCall{
		{"ProofMatch", func(t [][]int, u [][]int, rows []int, columns []int) [][]int {
			text, ok := impl.ProofMatch(t)
			return [][]int{bytesOf(text), told(ok)}
		}},
		{"ProofCrossed", func(t [][]int, u [][]int, rows []int, columns []int) [][]int {
			i, k, ok := impl.ProofCrossed(t)
			return [][]int{{i, k}, told(ok)}
		}},
		{"ProofMatchIs with ProofMatch", func(t [][]int, u [][]int, rows []int, columns []int) [][]int {
			text, _ := impl.ProofMatch(t)
			return [][]int{told(impl.ProofMatchIs(t, rows, text))}
		}},
		{"ProofMatchIs with levels", func(t [][]int, u [][]int, rows []int, columns []int) [][]int {
			return [][]int{told(impl.ProofMatchIs(t, rows, levelsText(columns)))}
		}},
	}
	for _, text := range []string{"levels 0 -1 1 2", "levels 0 0", "levels -0 0", "levels", ""} {
		calls = append(calls, tableCall{"ProofMatchIs with " + text, func(t [][]int, u [][]int, rows []int, columns []int) [][]int {
			return [][]int{told(impl.ProofMatchIs(t, rows, text))}
		}})
	}
	return calls
}

// memoryMatches returns tables with lists that may be matches, and levels in place of a second list.
func memoryMatches() []tableArgs {
	all := []tableArgs{
		{[][]int{{1, 4}, {0, 1}}, nil, []int{0, 1}, []int{0, -1, 1, 2}},
		{[][]int{{1, 4}, {0, 1}}, nil, []int{1, 0}, []int{0, -1, 1, 2}},
		{[][]int{{4, 1}, {1, 0}}, nil, []int{1, 0}, []int{0, 0, 1, 1}},
		{[][]int{{0}}, nil, []int{0}, []int{-99999, 99999}},
		{[][]int{{0, 9, 0}, {0, 0, 0}, {0, 0, 0}}, nil, []int{0, 1, 2}, filled(6, 0)},
		{[][]int{{0, 9, 0}, {0, 0, 0}, {0, 0, 0}}, nil, []int{2, 2, 0}, filled(6, 0)},
		{[][]int{{0, 0}, {0, 1}}, nil, []int{0, 1, 2}, filled(4, 0)},
	}
	for _, m := range matchSamples()[:60] {
		all = append(all, tableArgs{m.table, nil, m.match, m.levels})
	}
	return append(all, memoryTables()...)
}

// proofQuestions returns all calls, each with a copy of all arguments.
func proofQuestions() []func() question {
	var all []func() question
	for _, c := range sharingProofCalls() {
		for _, m := range memorySharings() {
			all = append(all, func() question { return m.question(c) })
		}
	}
	for _, c := range matchProofCalls() {
		for _, m := range memoryMatches() {
			all = append(all, func() question { return m.question(c) })
		}
	}
	return all
}

func TestProofArgumentsStay(t *testing.T) {
	for _, fresh := range proofQuestions() {
		wantArgumentsStay(t, fresh())
	}
}

func TestProofResultsStay(t *testing.T) {
	for _, fresh := range proofQuestions() {
		wantResultsStay(t, fresh)
	}
}

// TestProofsInAnyOrder asks all there is to ask, and then the last thing first: the answers stay the same.
func TestProofsInAnyOrder(t *testing.T) {
	var questions []question
	var first [][][]int
	for _, fresh := range proofQuestions() {
		q := fresh()
		questions, first = append(questions, q), append(first, q.ask())
	}
	for i := len(questions) - 1; i >= 0; i-- {
		if again := questions[i].ask(); !sameTable(again, first[i]) {
			t.Errorf("%s of %v was %v and then %v", questions[i].name, questions[i].args, first[i], again)
		}
	}
}

// TestProofsOfOneList takes one list as all rows and as the list of places or the match.
func TestProofsOfOneList(t *testing.T) {
	a := []int{0, 1, 2}
	rows := [][]int{a, a, a}
	wantShareText(t, rows, 3, "price 1")
	wantSharingProof(t, rows, a, "price 1", true)
	wantSharingProof(t, rows, a, "price 2", false)
	wantMatchText(t, rows, "levels 0 0 0 0 1 2")
	wantMatchProof(t, rows, a, "levels 0 0 0 0 1 2", true)
	wantCrossing(t, rows, 0, 0, false)
	wantCrossing(t, [][]int{{5, 5}, a[:2], a[1:]}, 0, 0, true)
	wantList(t, a, true, []int{0, 1, 2}, "the list of the entries")
}

func TestProofsAtOnce(t *testing.T) {
	var askers sync.WaitGroup
	for _, fresh := range proofQuestions() {
		wantSameAtOnce(t, &askers, fresh())
	}
	askers.Wait()
}
