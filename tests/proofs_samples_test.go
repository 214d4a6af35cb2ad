package tests

import (
	"regexp"
	"slices"
	"strconv"
	"strings"
)

// proofMax is the greatest number of a proof, without its sign.
const proofMax = 99999

var (
	sharingText = regexp.MustCompile(`^price (?:0|-?[1-9][0-9]{0,4})$`)
	matchText   = regexp.MustCompile(`^levels(?: (?:0|-?[1-9][0-9]{0,4}))*$`)
)

// numbersIn returns the numbers of a text behind its word.
func numbersIn(text string) []int {
	var numbers []int
	for _, word := range strings.Fields(text)[1:] {
		n, _ := strconv.Atoi(word)
		numbers = append(numbers, n)
	}
	return numbers
}

// textWith returns the text of a word and of numbers behind it.
func textWith(word string, numbers ...int) string {
	for _, n := range numbers {
		word += " " + strconv.Itoa(n)
	}
	return word
}

func priceText(price int) string {
	return textWith("price", price)
}

func levelsText(levels []int) string {
	return textWith("levels", levels...)
}

// isSharingProof says again when a text is a proof that a sharing of rows is least.
func isSharingProof(rows [][]int, list []int, text string) bool {
	if !areBent(rows) || !sharingText.MatchString(text) {
		return false
	}
	price := numbersIn(text)[0]
	return -priceMax <= price && price <= priceMax && isPrice(rows, list, price)
}

// isMatchProof says again when a text is a proof that a match of a table with as many rows as columns is least: what is left of a table without all levels has no entry less than 0, and 0 at the match.
func isMatchProof(t [][]int, match []int, text string) bool {
	if !matchText.MatchString(text) || len(numbersIn(text)) != 2*len(t) {
		return false
	}
	levels := numbersIn(text)
	left := tableOf(len(t), len(t), func(i int, k int) int { return t[i][k] - levels[i] - levels[len(t)+k] })
	return slices.Min(slices.Concat(left...)) >= 0 && matchCost(left, match) == 0
}

// lowestPrice says again what the least price of a sharing is that has one, by trying all.
func lowestPrice(rows [][]int, list []int) int {
	price := -priceMax
	for !isPrice(rows, list, price) {
		price++
	}
	return price
}

// matchLevels says again which levels ProofMatch tells: both sums of entries, those of the rows at their own columns and those at the columns ahead of these, make up each level.
func matchLevels(t [][]int) []int {
	var ofRows, ofColumns []int
	own, ahead := 0, 0
	for i, a := range t {
		if i > 0 {
			ahead += a[i-1]
		}
		ofRows = append(ofRows, ahead-own)
		own += a[i]
		ofColumns = append(ofColumns, own-ahead)
	}
	return append(ofRows, ofColumns...)
}

// crossingOf says again where a table is first not crossed: at the first two rows beside each other that are not, and there at the last one of as few columns as are not.
func crossingOf(t [][]int) (int, int, bool) {
	for i := range len(t) - 1 {
		two := t[i : i+2]
		for k := range len(two[0]) - 1 {
			if !isCrossed([][]int{two[0][:k+2], two[1][:k+2]}) {
				return i, k, true
			}
		}
	}
	return 0, 0, false
}

// wordsOfNumbers returns words that tell a number in the only way in which a proof may tell it.
func wordsOfNumbers() []string {
	return strings.Fields("0 1 -1 2 -2 9 -9 10 -10 20 100 -100 101 999 1000 -1000 1001 2000 2999 3000 -2999 -3000 3001 -3001 10000 -10000 12345 99999 -99999")
}

// wordsOfNone returns words that tell no number as a proof has to tell it: of other signs, leading zeros, more than 5 digits, and bytes that are no digits.
func wordsOfNone() []string {
	words := []string{
		"-0", "+0", "+1", "+12", "--0", "--1", "++1", "-+1", "+-1", "-", "+", "--", "+-", "- 1", "-\x001", "1-", "1+", "0-", "-1-", "1-1", "-1-1", "-+", "+99999", "--99999",
		"00", "01", "-01", "-00", "000", "001", "0001", "00001", "-00001", "000001", "00000", "-00000", "000000", "-000000", "01000", "-01000", "0-1",
		"100000", "-100000", "100001", "123456", "-123456", "999999", "-999999", "1000000", "300000", "099999", "-099999", "000000000000000000000001",
		"4294967296", "-4294967296", "4294967297", "9223372036854775807", "9223372036854775808", "-9223372036854775808", "-9223372036854775809", "18446744073709551616", "18446744073709551617",
		strings.Repeat("9", 100), strings.Repeat("0", 1000), strings.Repeat("0", 30) + "1", strings.Repeat("-", 30) + "1", strings.Repeat("1", 1<<16),
		"", " ", "  ", "\t", "\n", "1\n", "\n1", "1\t", "\t1", "1\r", "\x00", "1\x00", "\x001", "1\v", "1\u00a0", "\u00a01", "\u20091", "\ufeff1",
		"a", "x", "u", "v", "n", "1a", "a1", "0x1", "0x0", "0b1", "0o1", "1_0", "1_000", "1e1", "1e0", "0e0", "1.0", "1.", ".1", "0.0", "1,0", "1,", ",1", "1/1", "1:1", "1;", "(1)", "[1]", "'1'", "\"1\"", "$1", "1%", "#1", "=1", "~1", "!1",
		"NaN", "Inf", "-Inf", "nil", "true", "price", "levels", "one", "0price",
		"\u0660", "\u0661", "\uff10", "\uff11", "\u00b9", "\u00bd", "\u2212" + "1", "\u20101", "\u20131", "\uff0d1", "\xff", "\xb1", "1\xff", "\xff1", "\x30\x80", "1\u0301",
	}
	for c := range 256 {
		if c < '0' || c > '9' {
			words = append(words, string([]byte{byte(c)}), string([]byte{'1', byte(c)}), string([]byte{'1', byte(c), '1'}), string([]byte{byte(c), byte(c), '1'}))
		}
		if c != '-' && c != ' ' && (c < '0' || c > '9') {
			words = append(words, string([]byte{byte(c), '1'}))
		}
	}
	return words
}

// matchSample is a table with a match and levels that are a proof of it.
type matchSample struct {
	table  [][]int
	match  []int
	levels []int
}

func (m matchSample) text() string {
	return levelsText(m.levels)
}

// drawnMatch returns a match of n rows, and levels of n rows and n columns from -most to most, with a table that has their sums at the match and elsewhere up to more - 1 more.
func drawnMatch(n int, most int, more int, seed int) matchSample {
	draw := draws(seed)
	all := orders(n)
	match := all[draw(len(all))]
	levels := make([]int, 2*n)
	for i := range levels {
		levels[i] = draw(2*most+1) - most
	}
	table := tableOf(n, n, func(i int, k int) int {
		rest := draw(more)
		if match[i] == k {
			rest = 0
		}
		return levels[i] + levels[n+k] + rest
	})
	return matchSample{table, match, levels}
}

// squareCrossed returns crossed tables with as many rows as columns.
func squareCrossed() [][][]int {
	return crossedOnes(squareTables())
}

// shifted returns levels in which those of the rows are greater by as much as those of the columns are less.
func shifted(levels []int, by int) []int {
	moved := slices.Clone(levels)
	for i := range moved {
		if i < len(moved)/2 {
			moved[i] += by
		} else {
			moved[i] -= by
		}
	}
	return moved
}

// shiftedSamples returns samples with the greatest numbers that a proof may have.
func shiftedSamples() []matchSample {
	return []matchSample{
		{[][]int{{0}}, []int{0}, []int{99999, -99999}},
		{[][]int{{0}}, []int{0}, []int{-99999, 99999}},
		{[][]int{{1000}}, []int{0}, []int{99999, -98999}},
		{[][]int{{-1000}}, []int{0}, []int{98999, -99999}},
		{[][]int{{-1000}}, []int{0}, []int{-99999, 98999}},
		{steady(2, 2, 5), []int{1, 0}, []int{99999, 99999, -99994, -99994}},
		{steady(6, 6, 0), []int{5, 4, 3, 2, 1, 0}, append(filled(6, -99999), filled(6, 99999)...)},
		{steady(6, 6, -1), []int{2, 0, 1, 5, 3, 4}, append(filled(6, 10000), filled(6, -10001)...)},
	}
}

// matchSamples returns proofs of matches of tables of all sizes, crossed ones and others.
func matchSamples() []matchSample {
	all := shiftedSamples()
	for n := 1; n <= tableMax; n++ {
		for seed := range 12 {
			all = append(all, drawnMatch(n, 1, 2, seed+n), drawnMatch(n, 5, 4, 5*seed+n), drawnMatch(n, 300, 400, 3*seed+n))
		}
	}
	for i, t := range squareCrossed() {
		if i%7 == 0 || len(t) > 3 {
			all = append(all, matchSample{t, counted(len(t), 0, 1), matchLevels(t)})
		}
	}
	for _, m := range all[len(shiftedSamples()):] {
		all = append(all, matchSample{m.table, m.match, shifted(m.levels, 7)}, matchSample{m.table, m.match, shifted(m.levels, -50000)})
	}
	return all
}

// noMatches returns lists that are no match of n rows and n columns: too few or too many columns, one of them twice, or one, at each place in turn, that is none.
func noMatches(n int) [][]int {
	lists := [][]int{nil, {}, counted(n+1, 0, 1), counted(n-1, 0, 1), counted(n-1, 1, 1), counted(n, 1, 1), counted(n, -1, 1), counted(100, 0, 1), append(counted(n, 0, 1), 0), append(counted(n, 0, 1), counted(n, 0, 1)...)}
	for i := range n {
		for _, x := range append(outside(), -1, -2, -n, n, n+1, tableMax, 1<<32) {
			list := counted(n, 0, 1)
			list[i] = x
			lists = append(lists, list)
		}
		for k := range n {
			list := counted(n, 0, 1)
			list[i] = k
			if i != k {
				lists = append(lists, list)
			}
		}
	}
	return slices.DeleteFunc(lists, func(list []int) bool { return isMatch(list, n) })
}

// isMatch says again whether a list has each number from 0 to n - 1 once.
func isMatch(list []int, n int) bool {
	return slices.Equal(slices.Sorted(slices.Values(list)), counted(n, 0, 1))
}
