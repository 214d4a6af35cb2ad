package tests

import (
	"slices"
	"testing"

	"loop.example/bentrows/impl"
)

// mustTell returns TermRow of a term.
func mustTell(t *testing.T, s string, n int) []int {
	t.Helper()
	a, ok := impl.TermRow(s, n)
	if !ok {
		t.Fatalf("TermRow of %q and %d failed", s, n)
	}
	return a
}

// mustTidy returns TermTidy of a term.
func mustTidy(t *testing.T, s string) string {
	t.Helper()
	tidy, ok := impl.TermTidy(s)
	if !ok {
		t.Fatalf("TermTidy of %q failed", s)
	}
	return tidy
}

func TestPromise77(t *testing.T) {
	most := 0
	for _, s := range manyTerms() {
		wantIn(t, s, true)
		wantIn(t, s+")", false)
		wantIn(t, s+"(", false)
		// What has more bytes than a term is none.
		wantIn(t, "("+s+"|x)", len(s) <= termMax-4)
		if len(s) == termMax-4 {
			most++
		}
	}
	if most < 20 {
		t.Fatalf("just %d terms have %d bytes", most, termMax-4)
	}
}

func TestPromise78(t *testing.T) {
	for _, s := range manyTerms() {
		var ahead []int
		for n := 1; n <= termRowMax; n++ {
			a := mustTell(t, s, n)
			if !impl.RowBent(a) || len(a) != n || !slices.Equal(a[:n-1], ahead) {
				t.Fatalf("TermRow of %q and %d returned %v, and for one entry less %v", s, n, a, ahead)
			}
			ahead = a
		}
	}
}

func TestPromise79(t *testing.T) {
	for _, s := range manyTerms() {
		for i := range termRowMax {
			wantTermAt(t, s, i, mustTell(t, s, i+1)[i])
		}
	}
}

func TestPromise80(t *testing.T) {
	shorter := 0
	for _, s := range manyTerms() {
		tidy := mustTidy(t, s)
		if again := mustTidy(t, tidy); again != tidy || len(tidy) > len(s) {
			t.Fatalf("TermTidy of %q returned %q, and of this %q", s, tidy, again)
		}
		if !impl.TermSame(s, tidy, 4) {
			t.Fatalf("TermSame does not hold for %q and %q", s, tidy)
		}
		if len(tidy) < len(s) {
			shorter++
		}
	}
	if shorter < 1000 {
		t.Fatalf("TermTidy made just %d terms shorter", shorter)
	}
}

// forPairs asks about all two of a few terms with each number of entries.
func forPairs(ask func(s string, u string, n int)) {
	for _, s := range fewTerms() {
		for _, u := range fewTerms() {
			for n := 1; n <= termRowMax; n++ {
				ask(s, u, n)
			}
		}
	}
}

func TestPromise81(t *testing.T) {
	same := 0
	forPairs(func(s string, u string, n int) {
		if !impl.TermSame(s, u, n) {
			return
		}
		same++
		wantBelow(t, s, u, n, true)
		wantBelow(t, u, s, n, true)
		entry, first, ok := impl.TermLeast(s, n)
		wantTwo(t, entry, first, ok, entry, first, true, "TermLeast", s, n)
		wantTermLeast(t, u, n, entry, first)
	})
	if same < 500 {
		t.Fatalf("TermSame held just %d times", same)
	}
}

func TestPromise82(t *testing.T) {
	below := 0
	forPairs(func(s string, u string, n int) {
		if len(s)+len(u) <= termMax-3 && impl.TermBelow(s, u, n) {
			wantSame(t, "("+s+"|"+u+")", u, n, true)
			below++
		}
	})
	// 37 bytes together, and 38, where what comes is no term.
	for _, c := range []struct {
		high string
		same bool
	}{
		{"(x+(x+(x+(x+(x+(x+(x+(-x+-x))))))))", true},
		{"(x+(x+(x+(x+(x+(x+(-x+(-x+-x))))))))", false},
	} {
		wantBelow(t, "-x", c.high, 6, true)
		wantSame(t, "(-x|"+c.high+")", c.high, 6, c.same)
	}
	if below < 1000 {
		t.Fatalf("TermBelow held just %d times", below)
	}
}

func TestPromise83(t *testing.T) {
	forPairs(func(s string, u string, n int) {
		merged, ok := impl.MergeTry(mustTell(t, s, n), mustTell(t, u, n))
		if !ok {
			t.Fatalf("MergeTry of the rows of %q and %q failed", s, u)
		}
		wantTermRow(t, "("+s+"&"+u+")", merged[:n])
	})
}

func TestPromise84(t *testing.T) {
	for _, s := range manyTerms() {
		for n := 1; n <= termRowMax; n++ {
			entry, first, _, ok := impl.RowLeast(mustTell(t, s, n))
			if !ok {
				t.Fatalf("RowLeast of TermRow of %q and %d failed", s, n)
			}
			wantTermLeast(t, s, n, entry, first)
		}
	}
}
