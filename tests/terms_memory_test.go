package tests

import (
	"runtime"
	"sync"
	"testing"

	"loop.example/bentrows/impl"
)

// bytesOf returns the bytes of a text as a list of numbers.
func bytesOf(s string) []int {
	var list []int
	for _, c := range []byte(s) {
		list = append(list, int(c))
	}
	return list
}

// termQuestion asks all functions about two texts and a number of entries.
func termQuestion(s string, u string, n int) question {
	type args struct {
		s, u string
		n    int
	}
	return question{"what a term tells", args{s, u, n}, func() [][]int { return nil }, func() [][]int {
		told1, ok1 := impl.TermRow(s, n)
		told2, ok2 := impl.TermRow(u, n)
		entry, ok3 := impl.TermAt(s, n-1)
		tidy, ok4 := impl.TermTidy(s)
		least, first, ok5 := impl.TermLeast(s, n)
		return [][]int{
			told1, told(ok1), told2, told(ok2), {entry}, told(ok3), bytesOf(tidy), told(ok4), {least, first}, told(ok5),
			told(impl.TermIn(s)), told(impl.TermSame(s, u, n)), told(impl.TermBelow(s, u, n)),
		}
	}}
}

func termQuestions() []question {
	var all []question
	texts := append(longTerms(), "0", "7", "x", "v", "-x", "(x|x)", "(0+x)", "(x|2)", "((x+1)&v)", "(v&v)", "", "(x+", "x ", "(x&x))")
	for i, s := range texts {
		for _, n := range []int{1, 2, 6, 0, 7} {
			all = append(all, termQuestion(s, s, n), termQuestion(s, texts[len(texts)-1-i], n))
		}
	}
	return all
}

// TestTermResultsStay asks again and again, and overwrites what came of it in between.
func TestTermResultsStay(t *testing.T) {
	for _, q := range termQuestions() {
		wantResultsStay(t, func() question { return q })
	}
}

// TestTermRowsApart overwrites the row of a term with the room behind it, where those of its terms are asked for then.
func TestTermRowsApart(t *testing.T) {
	for _, s := range []string{"x", "7", "(x|x)", "(0+x)", "(x+0)", "(0&x)", "((x|x)|(x|x))", "(v&(x+1))"} {
		for n := 1; n <= termRowMax; n++ {
			first := mustTell(t, s, n)
			scribble(first)
			wantTermRow(t, s, termRow(s, n))
			wantTermRow(t, "x", termRow("x", n))
			wantTermAt(t, s, n-1, termRow(s, n)[n-1])
		}
	}
}

// TestTermsInAnyOrder asks about terms between which others are asked: the answer stays the same.
func TestTermsInAnyOrder(t *testing.T) {
	questions := termQuestions()
	var first [][][]int
	for _, q := range questions {
		first = append(first, q.ask())
	}
	for i := len(questions) - 1; i >= 0; i-- {
		if again := questions[i].ask(); !sameTable(again, first[i]) {
			t.Errorf("%s of %v was %v and then %v", questions[i].name, questions[i].args, first[i], again)
		}
	}
}

func TestTermsAtOnce(t *testing.T) {
	var askers sync.WaitGroup
	for _, q := range termQuestions() {
		wantSameAtOnce(t, &askers, q)
	}
	askers.Wait()
}

// TestNoGoroutineStaysOfTerms checks that no goroutine outlives the call that began it.
func TestNoGoroutineStaysOfTerms(t *testing.T) {
	before := runtime.NumGoroutine()
	for _, q := range termQuestions() {
		q.ask()
	}
	wantNoMore(t, before)
}
