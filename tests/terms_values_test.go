package tests

import (
	"slices"
	"testing"

	"loop.example/bentrows/impl"
)

func wantIn(t *testing.T, s string, want bool) {
	t.Helper()
	if got := impl.TermIn(s); got != want {
		t.Fatalf("TermIn of %q returned %t; want %t", s, got, want)
	}
}

func wantTermRow(t *testing.T, s string, want []int) {
	t.Helper()
	got, ok := impl.TermRow(s, len(want))
	wantList(t, got, ok, want, "TermRow", s, len(want))
}

func wantTermAt(t *testing.T, s string, i int, want int) {
	t.Helper()
	got, ok := impl.TermAt(s, i)
	wantNumber(t, got, ok, want, true, "TermAt", s, i)
}

func wantTidy(t *testing.T, s string, want string) {
	t.Helper()
	got, ok := impl.TermTidy(s)
	wantText(t, got, ok, want, true, "TermTidy", s)
}

func wantTermLeast(t *testing.T, s string, n int, want int, wantFirst int) {
	t.Helper()
	entry, first, ok := impl.TermLeast(s, n)
	wantTwo(t, entry, first, ok, want, wantFirst, true, "TermLeast", s, n)
}

// wantSame checks TermSame of two terms, which is the same for both exchanged.
func wantSame(t *testing.T, s string, u string, n int, want bool) {
	t.Helper()
	if impl.TermSame(s, u, n) != want || impl.TermSame(u, s, n) != want {
		t.Fatalf("TermSame of %q, %q and %d is not %t both ways", s, u, n, want)
	}
}

func wantBelow(t *testing.T, s string, u string, n int, want bool) {
	t.Helper()
	if got := impl.TermBelow(s, u, n); got != want {
		t.Fatalf("TermBelow of %q, %q and %d returned %t; want %t", s, u, n, got, want)
	}
}

// wantNothing checks that all functions fail for a term, if it is one, and a number of entries; TermAt is asked for the last place.
func wantNothing(t *testing.T, s string, n int) {
	t.Helper()
	got, ok := impl.TermRow(s, n)
	wantNone(t, got, ok, "TermRow", s, n)
	entry, ok := impl.TermAt(s, n-1)
	wantNumber(t, entry, ok, 0, false, "TermAt", s, n-1)
	entry, first, ok := impl.TermLeast(s, n)
	wantTwo(t, entry, first, ok, 0, 0, false, "TermLeast", s, n)
	wantUnlike(t, s, s, n)
	wantUnlike(t, s, "x", n)
	wantUnlike(t, "x", s, n)
}

// wantUnlike checks that TermSame and TermBelow do not hold.
func wantUnlike(t *testing.T, s string, u string, n int) {
	t.Helper()
	if impl.TermSame(s, u, n) || impl.TermBelow(s, u, n) {
		t.Fatalf("TermSame or TermBelow holds for %q, %q and %d", s, u, n)
	}
}

// wantNoTerm checks that all functions fail for a text.
func wantNoTerm(t *testing.T, s string) {
	t.Helper()
	wantIn(t, s, false)
	got, ok := impl.TermTidy(s)
	wantText(t, got, ok, "", false, "TermTidy", s)
	for n := 0; n <= termRowMax+1; n++ {
		wantNothing(t, s, n)
	}
}

// TestSampleTerms checks that the terms of the samples are some, and that others are none.
func TestSampleTerms(t *testing.T) {
	full := 0
	for _, s := range manyTerms() {
		if !isTerm(s) {
			t.Fatalf("%q is no term", s)
		}
		if len(s) == termMax {
			full++
		}
	}
	for _, s := range noTerms() {
		if isTerm(s) {
			t.Fatalf("%q is a term", s)
		}
	}
	beyond := 0
	for _, s := range longTexts() {
		if len(s) == termMax+1 {
			beyond++
		}
	}
	if full < 40 || beyond < 40 {
		t.Fatalf("there are %d terms of %d bytes, and %d texts of one byte more", full, termMax, beyond)
	}
}

func TestTermIn(t *testing.T) {
	for _, s := range manyTerms() {
		wantIn(t, s, true)
	}
	for _, s := range []string{"0", "9", "x", "v", "-x", "(x+x)", "(x|2)", "(x&v)", "(-x+-x)", "((x+1)&v)", "(v&(x+1))", "((0|1)+(2&3))"} {
		wantIn(t, s, true)
	}
}

// TestTermInShort takes all texts of a few bytes: just those that are terms succeed.
func TestTermInShort(t *testing.T) {
	terms := 0
	for _, s := range slices.Concat(textsOf(5, "()+|&-xv09"), textsOf(7, "()&-x"), textsOf(1, allBytes())) {
		want := isTerm(s)
		wantIn(t, s, want)
		if want {
			terms++
		}
	}
	if terms < 50 {
		t.Fatalf("there are just %d terms", terms)
	}
}

// allBytes returns a text of each byte there is.
func allBytes() string {
	var list []byte
	for c := range 256 {
		list = append(list, byte(c))
	}
	return string(list)
}

// TestTermInChanged changes a byte of a term: just what is a term then succeeds.
func TestTermInChanged(t *testing.T) {
	terms, others := 0, 0
	for _, s := range slices.Concat(fewTerms(), longTerms()) {
		for _, other := range changedTexts(s, "()+|&-xv059 ,") {
			if isTerm(other) {
				wantIn(t, other, true)
				terms++
			} else {
				wantNoTerm(t, other)
				others++
			}
		}
	}
	if terms < 1000 || others < 10000 {
		t.Fatalf("%d texts were terms, and %d were none", terms, others)
	}
}

// TestTermFails takes texts that are no terms.
func TestTermFails(t *testing.T) {
	for _, s := range noTerms() {
		wantNoTerm(t, s)
		for _, n := range noTermCounts() {
			wantNothing(t, s, n)
		}
		for _, other := range []string{"", "x", s + " ", "(x+"} {
			for n := 1; n <= termRowMax; n++ {
				wantUnlike(t, s, other, n)
				wantUnlike(t, other, s, n)
			}
		}
	}
}

// TestTermFailsForNumbers takes terms, and numbers of entries and places that are none.
func TestTermFailsForNumbers(t *testing.T) {
	for _, s := range slices.Concat(fewTerms(), longTerms()) {
		for _, n := range noTermCounts() {
			wantNothing(t, s, n)
		}
		for _, i := range noTermPlaces() {
			entry, ok := impl.TermAt(s, i)
			wantNumber(t, entry, ok, 0, false, "TermAt", s, i)
		}
	}
}

// TestTermRow checks TermRow, TermAt and TermLeast; each term tells a row.
func TestTermRow(t *testing.T) {
	for _, s := range manyTerms() {
		for n := 1; n <= termRowMax; n++ {
			want := termRow(s, n)
			wantTermRow(t, s, want)
			wantTermAt(t, s, n-1, want[n-1])
			least := slices.Min(want)
			wantTermLeast(t, s, n, least, slices.Index(want, least))
		}
	}
}

func TestTermRowOfSix(t *testing.T) {
	for _, c := range []struct {
		term string
		want []int
	}{
		{"0", []int{0, 0, 0, 0, 0, 0}},
		{"9", []int{9, 9, 9, 9, 9, 9}},
		{"x", []int{0, 1, 2, 3, 4, 5}},
		{"-x", []int{0, -1, -2, -3, -4, -5}},
		{"v", []int{0, 1, 4, 9, 16, 25}},
		{"(x|2)", []int{2, 2, 2, 3, 4, 5}},
		{"(2|x)", []int{2, 2, 2, 3, 4, 5}},
		{"(-x|x)", []int{0, 1, 2, 3, 4, 5}},
		{"(v+-x)", []int{0, 0, 2, 6, 12, 20}},
		{"(7+8)", []int{15, 15, 15, 15, 15, 15}},
		{"(7|8)", []int{8, 8, 8, 8, 8, 8}},
		{"(7&8)", []int{15, 15, 15, 15, 15, 15}},
		{"(x&x)", []int{0, 1, 2, 3, 4, 5}},
		{"(v&v)", []int{0, 1, 2, 5, 8, 13}},
		{"(v&(v&v))", []int{0, 1, 2, 3, 6, 9}},
		{"(v&x)", []int{0, 1, 2, 3, 4, 5}},
		{"(v&3)", []int{3, 3, 3, 3, 3, 3}},
		{"(-x&v)", []int{0, -1, -2, -3, -4, -5}},
		{"(-x&3)", []int{3, 2, 1, 0, -1, -2}},
		{"((x+1)&v)", []int{1, 2, 3, 4, 5, 6}},
		{"((x+x)&v)", []int{0, 1, 3, 5, 7, 9}},
		{"(v&(x+x))", []int{0, 1, 3, 5, 7, 9}},
		{"((x|3)&(v|1))", []int{4, 4, 4, 4, 4, 5}},
		{"((v|4)+(-x|-x))", []int{4, 3, 2, 6, 12, 20}},
		{"((v+-x)+(-x+-x))", []int{0, -2, -2, 0, 4, 10}},
		{"(((1+2)|x)&(v+-x))", []int{3, 3, 3, 3, 3, 4}},
		// The greatest entry and the least one that a term tells.
		{"(v+(v+(v+(v+(v+(v+(v+(v+(v+v)))))))))", []int{0, 10, 40, 90, 160, 250}},
		{"(-x+(-x+(-x+(-x+(-x+(-x+(-x+-x)))))))", []int{0, -8, -16, -24, -32, -40}},
	} {
		for n := 1; n <= termRowMax; n++ {
			wantTermRow(t, c.term, c.want[:n])
			wantTermAt(t, c.term, n-1, c.want[n-1])
		}
	}
}

func TestTermTidy(t *testing.T) {
	same, shorter := 0, 0
	for _, s := range manyTerms() {
		want := tidyOf(s)
		wantTidy(t, s, want)
		if want == s {
			same++
		} else {
			shorter++
		}
	}
	if same < 1000 || shorter < 1000 {
		t.Fatalf("%d terms were tidy, and %d were not", same, shorter)
	}
}

func TestTermTidyOne(t *testing.T) {
	for _, c := range []struct {
		term, want string
	}{
		{"7", "7"}, {"x", "x"}, {"-x", "-x"}, {"v", "v"},
		{"(0+x)", "x"}, {"(x+0)", "x"}, {"(0+0)", "0"}, {"(-x+0)", "-x"}, {"(0+(x&v))", "(x&v)"}, {"((x&v)+0)", "(x&v)"},
		{"(x|x)", "x"}, {"(-x|-x)", "-x"}, {"((x+1)|(x+1))", "(x+1)"}, {"(5|5)", "5"},
		// No rule for these.
		{"(0|x)", "(0|x)"}, {"(0&x)", "(0&x)"}, {"(x&0)", "(x&0)"}, {"(x+x)", "(x+x)"}, {"(x&x)", "(x&x)"}, {"((x+1)|(1+x))", "((x+1)|(1+x))"}, {"(-x|x)", "(-x|x)"}, {"(x+-x)", "(x+-x)"}, {"(1+x)", "(1+x)"},
		// Digits, whose sum is one or is none.
		{"(1+2)", "3"}, {"(4+5)", "9"}, {"(5+5)", "(5+5)"}, {"(9+9)", "(9+9)"}, {"(9+0)", "9"}, {"(0+9)", "9"}, {"(1+9)", "(1+9)"},
		{"(1&2)", "3"}, {"(4&5)", "9"}, {"(5&5)", "(5&5)"}, {"(0&0)", "0"}, {"(0&9)", "9"}, {"(9&1)", "(9&1)"},
		{"(3|8)", "8"}, {"(8|3)", "8"}, {"(9|9)", "9"}, {"(0|0)", "0"}, {"(0|9)", "9"},
		// Rules that lead to further ones, from the inside on.
		{"((1+2)|3)", "3"}, {"((1+2)&(3|4))", "7"}, {"((0+x)|(x+0))", "x"}, {"(((0&0)+x)|x)", "x"}, {"((0|0)+(x|x))", "x"}, {"(((1+2)+(3+4))+5)", "((3+7)+5)"},
		{"((5+5)|(5+5))", "(5+5)"}, {"((5+5)|(5&5))", "((5+5)|(5&5))"}, {"((4+5)+1)", "(9+1)"}, {"(((4+5)|9)+0)", "9"}, {"((x|x)&((0+0)+v))", "(x&v)"}, {"((5+5)+0)", "(5+5)"},
		{"(((((((((0+0)+0)+0)+0)+0)+0)+0)+0)+x)", "x"}, {"(((((((((1+1)+1)+1)+1)+1)+1)+1)+1)+1)", "(9+1)"},
		{"(((0+1)+(0|0))+((-x&(-x&-x))|(0+(x|5))))", "(1+((-x&(-x&-x))|(x|5)))"},
	} {
		wantTidy(t, c.term, c.want)
	}
}

// TestTermSame checks TermSame and TermBelow.
func TestTermSame(t *testing.T) {
	same, below, neither := 0, 0, 0
	for _, s := range fewTerms() {
		for _, u := range fewTerms() {
			for n := 1; n <= termRowMax; n++ {
				a, b := termRow(s, n), termRow(u, n)
				wantSame(t, s, u, n, slices.Equal(a, b))
				wantBelow(t, s, u, n, isBelow(a, b))
				switch {
				case slices.Equal(a, b):
					same++
				case isBelow(a, b):
					below++
				case !isBelow(b, a):
					neither++
				}
			}
		}
	}
	if same < 500 || below < 500 || neither < 500 {
		t.Fatalf("two terms told the same row %d times, one was below the other %d times, and none was %d times", same, below, neither)
	}
}

func TestTermSameOfTwo(t *testing.T) {
	for _, c := range []struct {
		left, right  string
		n            int
		same, lesser bool
	}{
		{"x", "x", 6, true, true},
		{"x", "v", 2, true, true},
		{"x", "v", 3, false, true},
		{"v", "x", 3, false, false},
		{"x", "0", 1, true, true},
		{"x", "-x", 1, true, true},
		{"-x", "x", 2, false, true},
		{"(x|2)", "2", 3, true, true},
		{"2", "(x|2)", 4, false, true},
		{"(x|2)", "2", 4, false, false},
		{"(x+1)", "(1+x)", 6, true, true},
		{"(5+5)", "(5&5)", 6, true, true},
		{"v", "3", 2, false, true},
		// Neither one is below the other.
		{"v", "3", 3, false, false},
		{"3", "v", 3, false, false},
	} {
		wantSame(t, c.left, c.right, c.n, c.same)
		wantBelow(t, c.left, c.right, c.n, c.lesser)
	}
}

func TestTermLeast(t *testing.T) {
	for _, c := range []struct {
		term        string
		n           int
		want, first int
	}{
		{"x", 6, 0, 0},
		{"-x", 6, -5, 5},
		{"-x", 1, 0, 0},
		{"7", 6, 7, 0},
		{"((v+-x)+(-x+-x))", 6, -2, 1},
		{"((v+-x)+(-x+-x))", 2, -2, 1},
		{"((v|4)+-x)", 6, 2, 2},
		{"(-x+-x)", 4, -6, 3},
		{"(-x|((x+x)+-x))", 5, 0, 0},
	} {
		wantTermLeast(t, c.term, c.n, c.want, c.first)
	}
}

// TestTermsOfOneEntry takes the place 0 alone, where x, -x and v tell the same.
func TestTermsOfOneEntry(t *testing.T) {
	for _, c := range []struct {
		term string
		want int
	}{
		{"0", 0}, {"9", 9}, {"x", 0}, {"-x", 0}, {"v", 0}, {"(x+-x)", 0}, {"(x|-x)", 0}, {"(x&v)", 0},
		{"(4+8)", 12}, {"(4|8)", 8}, {"(4&8)", 12}, {"(x+7)", 7}, {"(-x|7)", 7}, {"(7&v)", 7}, {"((9&9)+(9|v))", 27}, {"(9+(9+(9+(9+(9+(9+(9+(9+(9+9)))))))))", 90},
	} {
		wantTermRow(t, c.term, []int{c.want})
		wantTermAt(t, c.term, 0, c.want)
		wantTermLeast(t, c.term, 1, c.want, 0)
		wantSame(t, c.term, "x", 1, c.want == 0)
		wantBelow(t, c.term, "8", 1, c.want <= 8)
		wantBelow(t, "8", c.term, 1, c.want >= 8)
	}
}
