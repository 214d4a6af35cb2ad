package tests

import (
	"slices"
	"strings"
	"testing"

	"loop.example/bentrows/impl"
)

func wantSharingProof(t *testing.T, rows [][]int, list []int, text string, want bool) {
	t.Helper()
	if got := impl.ProofShareIs(rows, list, text); got != want {
		t.Fatalf("ProofShareIs of %v, %v and %.100q returned %t; want %t", rows, list, text, got, want)
	}
}

func wantMatchProof(t *testing.T, table [][]int, match []int, text string, want bool) {
	t.Helper()
	if got := impl.ProofMatchIs(table, match, text); got != want {
		t.Fatalf("ProofMatchIs of %v, %v and %.100q returned %t; want %t", table, match, text, got, want)
	}
}

func wantShareText(t *testing.T, rows [][]int, n int, want string) {
	t.Helper()
	text, ok := impl.ProofShare(rows, n)
	wantText(t, text, ok, want, true, "ProofShare", rows, n)
}

func wantNoShareText(t *testing.T, rows [][]int, n int) {
	t.Helper()
	text, ok := impl.ProofShare(rows, n)
	wantText(t, text, ok, "", false, "ProofShare", rows, n)
}

func wantMatchText(t *testing.T, table [][]int, want string) {
	t.Helper()
	text, ok := impl.ProofMatch(table)
	wantText(t, text, ok, want, true, "ProofMatch", table)
}

func wantNoMatchText(t *testing.T, table [][]int) {
	t.Helper()
	text, ok := impl.ProofMatch(table)
	wantText(t, text, ok, "", false, "ProofMatch", table)
}

func wantCrossing(t *testing.T, table [][]int, wantRow int, wantColumn int, want bool) {
	t.Helper()
	i, k, ok := impl.ProofCrossed(table)
	wantTwo(t, i, k, ok, wantRow, wantColumn, want, "ProofCrossed", table)
}

func TestProofShare(t *testing.T) {
	for _, rows := range bentGroups() {
		for n := range mostOf(rows) + 1 {
			wantShareText(t, rows, n, priceText(lowestPrice(rows, greedyOf(rows, n))))
		}
	}
	for _, c := range []struct {
		rows [][]int
		n    int
		want string
	}{
		{[][]int{{0, 1, 4}, {0, 2}}, 2, "price 2"},
		{[][]int{{0, 1, 4}, {0, 2}}, 3, "price 3"},
		{[][]int{{0, 1, 4}, {0, 2}}, 1, "price 1"},
		// No slope leads to the places of the amount 0.
		{[][]int{{0, 1, 4}, {0, 2}}, 0, "price -3000"},
		{[][]int{{7}}, 0, "price -3000"},
		{[][]int{{-1000}, {1000}, {0}, {5}}, 0, "price -3000"},
		{[][]int{{5, 5}, {7}}, 1, "price 0"},
		{[][]int{{5, 4}, {5, 4}}, 1, "price -1"},
		{[][]int{{9, 4, 1, 0}, {0, 1}}, 4, "price 1"},
		{[][]int{{9, 4, 1, 0}, {0, 1}}, 2, "price -3"},
		{[][]int{{-1000, 1000}}, 1, "price 2000"},
		{[][]int{{1000, -1000}}, 1, "price -2000"},
		{[][]int{{1000, -1000, 1000}}, 2, "price 2000"},
		{slices.Repeat([][]int{{1000, -1000}}, 4), 4, "price -2000"},
		{slices.Repeat([][]int{filled(rowMax, 0)}, 4), 44, "price 0"},
		{slices.Repeat([][]int{squares()}, 4), 44, "price 21"},
	} {
		wantShareText(t, c.rows, c.n, c.want)
	}
}

// TestProofShareFails takes amounts that there is no sharing of, lists that are no rows, and rows that are not bent.
func TestProofShareFails(t *testing.T) {
	for _, rows := range slices.Concat(shareGroups(), bentGroups()) {
		for _, n := range noAmountsOf(rows) {
			if n < 0 || n > mostOf(rows) {
				wantNoShareText(t, rows, n)
			}
		}
	}
	for _, rows := range noSharers() {
		for _, n := range []int{0, 1, 2, 12, -1, 1 << 62, -1 << 63} {
			wantNoShareText(t, rows, n)
		}
	}
	failed := 0
	for _, rows := range shareGroups() {
		if areBent(rows) {
			continue
		}
		failed++
		for n := range mostOf(rows) + 1 {
			wantNoShareText(t, rows, n)
		}
	}
	if failed < 500 {
		t.Fatalf("just %d lists of rows had one that is not bent", failed)
	}
	for _, rows := range [][][]int{{{0, 1, 1}}, {{0, 1, 4}, {0, 2, 2}}, {{7}, {0}, {0}, {0, 0, 0, 0, -1}}, {{-1000, 1000, -1000}}} {
		wantNoShareText(t, rows, 0)
		wantNoShareText(t, rows, 1)
	}
}

// pricesAround returns numbers that may be prices of a sharing, or just none: the bounds, if there are some, and what is beside them.
func pricesAround(rows [][]int, list []int) []int {
	prices := []int{0, -1, 1, 5, -priceMax, priceMax, -priceMax - 1, priceMax + 1, proofMax, -proofMax}
	for i, place := range list {
		for at := max(1, place); at <= min(place+1, len(rows[i])-1); at++ {
			slope := rows[i][at] - rows[i][at-1]
			prices = append(prices, slope-1, slope, slope+1)
		}
	}
	return prices
}

// forPrices asks about sharings of rows, bent or not, with texts that tell a number each.
func forPrices(ask func(rows [][]int, list []int, text string)) {
	for _, rows := range slices.Concat(shareGroups(), bentGroups()) {
		some := someSharings(rows)
		// Of many sharings a few are enough, with so many texts for each.
		for i := 0; i < len(some); i += 1 + len(some)/20 {
			for _, price := range pricesAround(rows, some[i]) {
				ask(rows, some[i], priceText(price))
			}
		}
	}
}

func TestProofShareIs(t *testing.T) {
	held, others, unbent := 0, 0, 0
	forPrices(func(rows [][]int, list []int, text string) {
		want := isSharingProof(rows, list, text)
		wantSharingProof(t, rows, list, text, want)
		switch {
		case want:
			held++
		case areBent(rows):
			others++
		case isPrice(rows, list, numbersIn(text)[0]):
			unbent++
		}
	})
	if min(held, others, unbent) < 2000 {
		t.Fatalf("%d texts are proofs, %d others are none, and %d tell a price of rows that are not bent", held, others, unbent)
	}
}

// pricesThrough returns numbers from below the least price there can be to beyond the greatest one, and some far away.
func pricesThrough() []int {
	return append(counted(2*priceMax+41, -priceMax-20, 1), -1000000, -proofMax-1, -proofMax, -10000, 10000, proofMax, proofMax+1, 1<<32, -1<<32, 1<<62, -1<<63)
}

// TestProofShareIsBounds takes sharings with both bounds, with one, with none, and with no price, and rows that are not bent at places with a price.
func TestProofShareIsBounds(t *testing.T) {
	unbent := 0
	for _, c := range pricedSharings() {
		if !areBent(c.rows) {
			unbent++
		}
		for _, price := range pricesThrough() {
			wantSharingProof(t, c.rows, c.list, priceText(price), areBent(c.rows) && c.low <= price && price <= c.high)
		}
	}
	if unbent < 3 {
		t.Fatalf("just %d sharings with a price are of rows that are not bent", unbent)
	}
	for _, c := range pricelessSharings() {
		for _, price := range pricesThrough() {
			wantSharingProof(t, c.rows, c.list, priceText(price), false)
		}
	}
}

// TestProofShareIsTexts takes all kinds of texts for a sharing of which each price from -priceMax to priceMax is one.
func TestProofShareIsTexts(t *testing.T) {
	rows, list := [][]int{{7}}, []int{0}
	ask := func(text string, want bool) {
		t.Helper()
		wantSharingProof(t, rows, list, text, want)
	}
	for _, word := range wordsOfNumbers() {
		ask("price "+word, isSharingProof(rows, list, "price "+word))
	}
	for _, word := range wordsOfNone() {
		ask("price "+word, false)
	}
	for _, word := range []string{"0", "1", "-1", "3000", "-3000"} {
		ask("price "+word, true)
		for _, text := range []string{
			"%", " %", "% ", " price %", "price % ", "price  %", "price   %", "price %  ", " price % ", "price\t%", "price\n%", "price\x00%", "price\u00a0%", "price%", "price:%", "price=%", "price, %", "price: %", "\nprice %", "price %\n", "price %\t", "price %\x00", "\x00price %", "\ufeffprice %",
			"Price %", "PRICE %", "prices %", "pric %", "rice %", "prise %", "levels %", "share %", "cost % ", "x %", "- %", "0 %", "pricе %", "price\xff %", "%price", "% price", "price price %", "price% ", "price-%", "price +%", "price --%", "price 0%", "price -0%", "price %.", "price %.0", "price %0000", "price %,",
			"price % %", "price % 0", "price 0 %", "price % % %", "price % price", "price % price %", "levels % %", "levels % price %", "price\x20\x20%", "price %\x20",
		} {
			ask(strings.ReplaceAll(text, "%", word), false)
		}
	}
	for _, text := range []string{"", " ", "  ", "price", "price ", "price  ", " price", "price -", "price +", "price -0", "price 00", "price 3001", "price -3001", "price 03000", "price -03000", "price 100000", "price 0 0", "Price 0", strings.Repeat(" ", 1<<16), strings.Repeat("price ", 1<<12) + "1", "price" + strings.Repeat(" 1", 1<<16)} {
		ask(text, false)
	}
}

// TestProofShareIsShort takes all numbers of a few bytes, and all texts of which one byte is told otherwise: just those that are proofs succeed.
func TestProofShareIsShort(t *testing.T) {
	rows, list := [][]int{{0, 0, 5}, {3, 1}}, []int{1, 1}
	held := 0
	texts := slices.Concat(textsOf(6, "-+023"), textsOf(2, allBytes()))
	for i := range texts {
		texts[i] = "price " + texts[i]
	}
	for _, text := range []string{"price 0", "price 1", "price 3", "price 5", "price -1", "price 10"} {
		texts = slices.Concat(texts, []string{text}, changedTexts(text, "-+ 0123459epricPtsl\t\n\x00"))
	}
	for _, text := range texts {
		want := isSharingProof(rows, list, text)
		wantSharingProof(t, rows, list, text, want)
		if want {
			held++
		}
	}
	if held < 10 {
		t.Fatalf("there are just %d proofs", held)
	}
}

// TestProofShareIsFails takes lists that are no rows, or no sharing, with numbers that would be prices.
func TestProofShareIsFails(t *testing.T) {
	for _, rows := range noSharers() {
		for _, list := range [][]int{nil, filled(len(rows), 0), filled(len(rows), 1), filled(len(rows), -1), filled(len(rows), rowMax), {0}} {
			wantSharingProof(t, rows, list, "price 0", false)
			wantSharingProof(t, rows, list, "price -3000", false)
		}
	}
	for _, rows := range bentGroups() {
		for _, list := range noPlacesOf(rows) {
			wantSharingProof(t, rows, list, "price 0", false)
			wantSharingProof(t, rows, list, "price -3000", false)
			wantSharingProof(t, rows, list, "price 3000", false)
		}
	}
}

// TestSampleMatches checks that the samples are proofs, with matches of all kinds.
func TestSampleMatches(t *testing.T) {
	crossed, others, moved := 0, 0, 0
	for _, m := range matchSamples() {
		if !isTable(m.table) || !isMatch(m.match, len(m.table)) || !isMatchProof(m.table, m.match, m.text()) {
			t.Fatalf("%v is no proof", m)
		}
		if isCrossed(m.table) {
			crossed++
		} else {
			others++
		}
		if !slices.IsSorted(m.match) {
			moved++
		}
	}
	if min(crossed, others, moved) < 100 {
		t.Fatalf("%d tables are crossed, %d are not, and %d matches have columns that do not ascend", crossed, others, moved)
	}
}

func TestProofMatchIs(t *testing.T) {
	held, others := 0, 0
	for _, m := range matchSamples() {
		wantMatchProof(t, m.table, m.match, m.text(), true)
		for i := range m.levels {
			for _, by := range []int{-1, 1, -9, 1000} {
				changed := slices.Clone(m.levels)
				changed[i] += by
				wantMatchProof(t, m.table, m.match, levelsText(changed), false)
			}
		}
		for _, by := range []int{1, -1, 30, -4000, 88888, -99999} {
			text := levelsText(shifted(m.levels, by))
			want := isMatchProof(m.table, m.match, text)
			wantMatchProof(t, m.table, m.match, text, want)
			if want {
				held++
			} else {
				others++
			}
		}
	}
	if min(held, others) < 500 {
		t.Fatalf("%d texts with others sums of the same were proofs, and %d were none", held, others)
	}
}

// TestProofMatchIsSmall takes small tables with all lists as matches, and all levels of some values.
func TestProofMatchIsSmall(t *testing.T) {
	held := 0
	for _, table := range append(tablesOf(2, 2, 0, 1), tablesOf(1, 1, -1, 0, 2)...) {
		n := len(table)
		for _, levels := range rowsOf(2*n, -1, 0, 1) {
			text := levelsText(levels)
			for _, list := range append(rowsOf(3, -1, 0, 1, 2), nil) {
				want := isMatch(list, n) && isMatchProof(table, list, text)
				wantMatchProof(t, table, list, text, want)
				if want {
					held++
				}
			}
		}
	}
	if held < 50 {
		t.Fatalf("there are just %d proofs", held)
	}
}

// forMatches asks about tables with levels that are a proof of one match, and all matches.
func forMatches(ask func(m matchSample, match []int)) {
	for i, m := range matchSamples() {
		// Of the greater tables, with so many matches, some are enough.
		if len(m.table) > 4 && i%10 != 0 {
			continue
		}
		for _, match := range orders(len(m.table)) {
			ask(m, match)
		}
	}
}

// TestProofMatchIsOrders takes levels that are a proof of one match: others that cost as little succeed as well.
func TestProofMatchIsOrders(t *testing.T) {
	held, others := 0, 0
	forMatches(func(m matchSample, match []int) {
		want := matchCost(m.table, match) == matchCost(m.table, m.match)
		wantMatchProof(t, m.table, match, m.text(), want)
		if want {
			held++
		} else {
			others++
		}
	})
	if min(held, others) < 1000 {
		t.Fatalf("%d matches cost as little, and %d more", held, others)
	}
}

func TestProofMatchIsByHand(t *testing.T) {
	for _, c := range []struct {
		table [][]int
		match []int
		text  string
		want  bool
	}{
		{[][]int{{1, 4}, {0, 1}}, []int{0, 1}, "levels 0 -1 1 2", true},
		{[][]int{{1, 4}, {0, 1}}, []int{0, 1}, "levels 2 1 -1 0", true},
		{[][]int{{1, 4}, {0, 1}}, []int{0, 1}, "levels 0 0 1 1", false},
		{[][]int{{1, 4}, {0, 1}}, []int{0, 1}, "levels 0 -3 1 4", true},
		{[][]int{{1, 4}, {0, 1}}, []int{0, 1}, "levels 0 -4 1 5", false},
		{[][]int{{1, 4}, {0, 1}}, []int{1, 0}, "levels 0 -1 1 2", false},
		{[][]int{{1, 4}, {0, 1}}, []int{1, 0}, "levels 0 -4 4 4", false},
		// Each sum is no greater than the entry, but at the match it is less.
		{[][]int{{1, 4}, {0, 1}}, []int{0, 1}, "levels 0 -1 1 1", false},
		{[][]int{{1, 4}, {0, 1}}, []int{0, 1}, "levels -1000 -1000 -1000 -1000", false},
		// As great at the match, but greater beside it.
		{[][]int{{0, 0}, {0, 1}}, []int{0, 1}, "levels 0 0 0 1", false},
		{[][]int{{0, 0}, {0, 1}}, []int{0, 1}, "levels 0 1 0 0", false},
		{[][]int{{0, 0}, {0, 1}}, []int{1, 0}, "levels 0 0 0 0", true},
		{[][]int{{5}}, []int{0}, "levels 0 5", true},
		{[][]int{{5}}, []int{0}, "levels 5 0", true},
		{[][]int{{5}}, []int{0}, "levels -5 10", true},
		{[][]int{{5}}, []int{0}, "levels 0 4", false},
		{[][]int{{5}}, []int{0}, "levels 0 6", false},
		{[][]int{{5}}, []int{0}, "levels 99999 -99994", true},
		{[][]int{{5}}, []int{0}, "levels -99994 99999", true},
		{[][]int{{5}}, []int{0}, "levels 100000 -99995", false},
		{[][]int{{5}}, []int{0}, "levels 100005 -100000", false},
		{[][]int{{5}}, []int{0}, "levels -99995 100000", false},
		// The levels of the columns ahead of those of the rows.
		{[][]int{{0, 10}, {1, 11}}, []int{0, 1}, "levels 0 1 0 10", true},
		{[][]int{{0, 10}, {1, 11}}, []int{1, 0}, "levels 0 1 0 10", true},
		{[][]int{{0, 10}, {1, 11}}, []int{0, 1}, "levels 0 10 0 1", false},
		{[][]int{{9, 0, 9}, {9, 9, 0}, {0, 9, 9}}, []int{1, 2, 0}, "levels 0 0 0 0 0 0", true},
		{[][]int{{9, 0, 9}, {9, 9, 0}, {0, 9, 9}}, []int{2, 0, 1}, "levels 0 0 0 0 0 0", false},
		{[][]int{{9, 0, 9}, {9, 9, 0}, {0, 9, 9}}, []int{2, 0, 1}, "levels 9 9 9 0 0 0", false},
	} {
		wantMatchProof(t, c.table, c.match, c.text, c.want)
	}
}

// TestProofMatchIsTexts takes all kinds of texts for matches of tables of one row and two.
func TestProofMatchIsTexts(t *testing.T) {
	one, two := [][]int{{0}}, steady(2, 2, 0)
	ask := func(text string) {
		t.Helper()
		wantMatchProof(t, one, []int{0}, text, isMatchProof(one, []int{0}, text))
		wantMatchProof(t, two, []int{1, 0}, text, isMatchProof(two, []int{1, 0}, text))
	}
	for _, word := range wordsOfNumbers() {
		back := strings.TrimPrefix("-"+word, "--")
		if word == "0" {
			back = word
		}
		wantMatchProof(t, one, []int{0}, "levels "+word+" "+back, true)
		wantMatchProof(t, two, []int{1, 0}, "levels "+strings.Join([]string{word, word, back, back}, " "), true)
		ask("levels " + word + " 0")
	}
	for _, word := range wordsOfNone() {
		for _, text := range []string{"levels % 0", "levels 0 %", "levels % %", "levels % -1", "levels -1 %", "levels % 0 0 0", "levels 0 % 0 0", "levels 0 0 % 0", "levels 0 0 0 %", "levels 1 1 % -1"} {
			text = strings.ReplaceAll(text, "%", word)
			wantMatchProof(t, two, []int{0, 1}, text, isMatchProof(two, []int{0, 1}, text))
			ask(text)
		}
	}
	for n := range 9 {
		zeros := strings.Repeat(" 0", n)
		for _, text := range []string{"levels%", " levels%", "levels% ", "levels %", "levels%  ", "levels%\n", "levels%\x00", "Levels%", "LEVELS%", "level%", "levelss%", "evels%", "price%", "x%", "%", "levels levels%", "levels% levels", "levels% 0\t", "levels\t0%", "levels\t%", "levels0%", "levels-0%", "levels, 0%", "levels  0%", "levels 0 %", "levels%  0", "levels% -0", "levels -0%", "levels% +0", "levels% 00", "levels% 00000", "price 0 levels%", "levels%,0", "levels% x"} {
			ask(strings.ReplaceAll(text, "%", zeros))
		}
	}
	for _, text := range []string{"", " ", "levels", "levels ", strings.Repeat(" ", 1<<16), "levels" + strings.Repeat(" 0", 1<<16), "levels" + strings.Repeat(" ", 1<<16), "0 0", "price 0", "price 0 0"} {
		ask(text)
		wantMatchProof(t, one, []int{0}, text, false)
	}
}

// TestProofMatchIsChanged changes a byte of a proof: just what is a proof then succeeds.
func TestProofMatchIsChanged(t *testing.T) {
	held := 0
	for _, m := range []matchSample{
		{[][]int{{0}}, []int{0}, []int{0, 0}}, {[][]int{{5}}, []int{0}, []int{-5, 10}}, {[][]int{{1, 4}, {0, 1}}, []int{0, 1}, []int{0, -1, 1, 2}},
		{[][]int{{1, 4}, {0, 1}}, []int{0, 1}, []int{0, -2, 1, 3}}, {steady(2, 2, 5), []int{1, 0}, []int{99999, 99999, -99994, -99994}}, {[][]int{{9, 0, 9}, {9, 9, 0}, {0, 9, 9}}, []int{1, 2, 0}, filled(6, 0)},
	} {
		for _, text := range changedTexts(m.text(), "-+ 0123459levsLprice\t\n\x00") {
			want := isMatchProof(m.table, m.match, text)
			wantMatchProof(t, m.table, m.match, text, want)
			if want {
				held++
			}
		}
	}
	if held < 3 {
		t.Fatalf("there are just %d proofs", held)
	}
}

// TestProofMatchIsNumbers takes too few and too many numbers, for tables of all sizes.
func TestProofMatchIsNumbers(t *testing.T) {
	for n := 1; n <= tableMax; n++ {
		table, match := steady(n, n, 0), backwards(counted(n, 0, 1))
		for count := range 40 {
			wantMatchProof(t, table, match, levelsText(filled(count, 0)), count == 2*n)
		}
	}
}

// TestProofMatchIsFails takes lists that are no match, and tables that are none or have not as many rows as columns.
func TestProofMatchIsFails(t *testing.T) {
	for n := 1; n <= tableMax; n++ {
		for _, list := range noMatches(n) {
			wantMatchProof(t, steady(n, n, 0), list, levelsText(filled(2*n, 0)), false)
		}
		for m := 1; m <= tableMax; m++ {
			if n == m {
				continue
			}
			for _, list := range [][]int{counted(n, 0, 1), counted(m, 0, 1), filled(n, 0), nil} {
				for _, count := range []int{n + m, 2 * n, 2 * m} {
					wantMatchProof(t, steady(n, m, 0), list, levelsText(filled(count, 0)), false)
				}
			}
		}
	}
	for _, table := range noTables() {
		n := len(table)
		for _, text := range []string{"levels", "levels 0 0", levelsText(filled(2*n, 0)), levelsText(filled(n, 0)), levelsText(append(filled(n, 1001), filled(n, 0)...)), levelsText(append(filled(n, -1001), filled(n, 0)...))} {
			wantMatchProof(t, table, counted(n, 0, 1), text, false)
			wantMatchProof(t, table, nil, text, false)
			wantMatchProof(t, table, []int{0}, text, false)
		}
	}
	for _, x := range []int{1001, -1001} {
		wantMatchProof(t, [][]int{{x}}, []int{0}, levelsText([]int{x, 0}), false)
		wantMatchProof(t, [][]int{{0, x}, {0, 0}}, []int{0, 1}, levelsText([]int{0, 0, 0, 0}), false)
	}
}

func TestProofMatch(t *testing.T) {
	for _, table := range squareCrossed() {
		wantMatchText(t, table, levelsText(matchLevels(table)))
	}
	for _, c := range []struct {
		table [][]int
		want  string
	}{
		{[][]int{{1, 4}, {0, 1}}, "levels 0 -1 1 2"},
		{[][]int{{5}}, "levels 0 5"},
		{[][]int{{0}}, "levels 0 0"},
		{[][]int{{-1000}}, "levels 0 -1000"},
		{[][]int{{1000}}, "levels 0 1000"},
		{[][]int{{0, 0}, {0, 0}}, "levels 0 0 0 0"},
		{[][]int{{0, 9}, {1, 5}}, "levels 0 1 0 4"},
		{[][]int{{1, 2, 3}, {4, 5, 6}, {7, 8, 9}}, "levels 0 3 6 1 2 3"},
		{[][]int{{0, 1, 4}, {1, 0, 1}, {4, 1, 0}}, "levels 0 1 2 0 -1 -2"},
		{steady(6, 6, 7), "levels 0 0 0 0 0 0 7 7 7 7 7 7"},
		// The greatest and the least numbers that come.
		{[][]int{{-1000, 1000}, {1000, -1000}}, "levels 0 2000 -1000 -3000"},
		{[][]int{{1000, 1000}, {-1000, -1000}}, "levels 0 -2000 1000 1000"},
	} {
		wantMatchText(t, c.table, c.want)
	}
}

// TestProofMatchFails takes tables that are not crossed, even if the levels are a proof, those with other rows than columns, and lists that are none.
func TestProofMatchFails(t *testing.T) {
	others, proofs := 0, 0
	for _, table := range manyTables() {
		if len(table) == len(table[0]) && isCrossed(table) {
			continue
		}
		wantNoMatchText(t, table)
		if len(table) != len(table[0]) {
			others++
		} else if isMatchProof(table, counted(len(table), 0, 1), levelsText(matchLevels(table))) {
			proofs++
		}
	}
	if others < 500 || proofs < 10 {
		t.Fatalf("%d tables had other rows than columns, and of %d that are not crossed the levels were a proof", others, proofs)
	}
	for _, table := range [][][]int{
		{{0, 0}, {0, 1}}, {{4, 1}, {1, 0}}, {{1000, -1000}, {-1000, 1000}}, {{0, 9, 0}, {0, 0, 0}, {0, 0, 0}},
		{{0, 0}}, {{0}, {0}}, {{1, 2, 3}, {4, 5, 6}}, {{1, 2}, {3, 4}, {5, 6}}, steady(5, 6, 0), steady(6, 5, 0), steady(1, 6, 0), steady(6, 1, 0),
	} {
		wantNoMatchText(t, table)
	}
	for _, table := range noTables() {
		wantNoMatchText(t, table)
	}
}

func TestProofCrossed(t *testing.T) {
	first, others, crossed := 0, 0, 0
	for _, table := range manyTables() {
		i, k, want := crossingOf(table)
		wantCrossing(t, table, i, k, want)
		switch {
		case !want:
			crossed++
		case i == 0 && k == 0:
			first++
		default:
			others++
		}
	}
	if min(first, others, crossed) < 500 {
		t.Fatalf("%d tables are crossed, %d are not so from the first row and column on, and %d elsewhere", crossed, first, others)
	}
	for _, c := range []struct {
		table [][]int
		i, k  int
		ok    bool
	}{
		{[][]int{{0, 0}, {0, 1}}, 0, 0, true},
		{[][]int{{1, 4}, {0, 1}}, 0, 0, false},
		{[][]int{{5}}, 0, 0, false},
		{[][]int{{5, 0, 9, -1000, 1000}}, 0, 0, false},
		{[][]int{{5}, {0}, {9}}, 0, 0, false},
		{[][]int{{0, 0}, {0, 0}}, 0, 0, false},
		{[][]int{{1000, -1000}, {-1000, 1000}}, 0, 0, true},
		// One spot alone, at the first and at the last rows and columns.
		{[][]int{{0, 0, 0}, {0, 0, 0}, {0, 0, 1}}, 1, 1, true},
		{[][]int{{0, 0, 0}, {0, 0, 0}, {1, 0, 0}}, 0, 0, false},
		{withEntry(steady(6, 6, 0), 5, 5, 1), 4, 4, true},
		{withEntry(steady(6, 6, 0), 0, 0, 1), 0, 0, true},
		{withEntry(steady(3, 6, 0), 2, 5, 1), 1, 4, true},
		{withEntry(steady(6, 3, 0), 5, 2, 1), 4, 1, true},
		// Several: the least row, and of it the least column, though there are lesser columns at greater rows.
		{[][]int{{0, 0, 0}, {0, 0, 1}, {0, 9, 0}}, 0, 1, true},
		{[][]int{{0, 0, 0, 0}, {0, 0, 1, 2}, {0, 9, 9, 9}}, 0, 1, true},
		{[][]int{{0, 0, 0}, {0, 1, 2}}, 0, 0, true},
		{[][]int{{0, 0, 0}, {0, -1, 0}}, 0, 1, true},
		{[][]int{{0, 0, 0}, {0, 0, 0}, {0, 5, 9}, {0, 9, 19}}, 1, 0, true},
		{tableOf(6, 6, func(i int, k int) int { return i * k }), 0, 0, true},
		{tableOf(6, 6, func(i int, k int) int { return -i * k }), 0, 0, false},
		// Not crossed at rows or columns apart only where it is not at some beside each other.
		{[][]int{{0, 9, 0}, {0, 0, 0}, {0, 0, 0}}, 0, 1, true},
	} {
		wantCrossing(t, c.table, c.i, c.k, c.ok)
	}
	for _, table := range noTables() {
		wantCrossing(t, table, 0, 0, false)
	}
}
