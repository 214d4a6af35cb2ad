package tests

import (
	"slices"
	"testing"
)

// inOrder returns the entries of a list, none greater than the one ahead of it.
func inOrder(a []int) []int {
	ordered := slices.Clone(a)
	slices.Sort(ordered)
	return backwards(ordered)
}

// sameEntries reports whether both lists have the same entries in some order.
func sameEntries(a []int, b []int) bool {
	return slices.Equal(inOrder(a), inOrder(b))
}

// beyondOf returns what the entries of a list that are greater than x have more than it, all together.
func beyondOf(a []int, x int) int {
	more := 0
	for _, y := range a {
		more += max(0, y-x)
	}
	return more
}

// isEven says again what EvenIs reports: all entries add up to the same, and those beyond any entry of both lists have together at most as much more than it.
func isEven(a []int, b []int) bool {
	if len(a) != len(b) || sumOf(a) != sumOf(b) {
		return false
	}
	for _, x := range slices.Concat(a, b) {
		if beyondOf(a, x) > beyondOf(b, x) {
			return false
		}
	}
	return true
}

// topsTried returns the greatest sum of k entries for each k from 0 on, by trying all choices of entries.
func topsTried(a []int) []int {
	tops := filled(len(a)+1, -1<<40)
	for choice := range 1 << len(a) {
		count, sum := 0, 0
		for i, x := range a {
			if choice>>i&1 == 1 {
				count, sum = count+1, sum+x
			}
		}
		tops[count] = max(tops[count], sum)
	}
	return tops
}

// levelsOf says again what EvenLevels returns, by levelling all two entries.
func levelsOf(a []int) [][]int {
	var levels [][]int
	for i, x := range a {
		for k, y := range a {
			if y > x-2 {
				continue
			}
			level := slices.Clone(a)
			level[i]--
			level[k]++
			levels = append(levels, inOrder(level))
		}
	}
	slices.SortFunc(levels, slices.Compare[[]int])
	return slices.CompactFunc(levels, slices.Equal)
}

// evenedOf says again what EvenMost and EvenSteps return, by levelling a greatest entry and a least one as long as there is a levelling.
func evenedOf(a []int) ([]int, int) {
	even, steps := inOrder(a), 0
	for even[0]-even[len(even)-1] >= 2 {
		even[0]--
		even[len(even)-1]++
		even = inOrder(even)
		steps++
	}
	return even, steps
}

// fewestSteps returns the least number of levellings, of any entries, that lead to a row that nothing can level.
func fewestSteps(a []int) int {
	steps := 0
	reached := [][]int{inOrder(a)}
	for {
		var next [][]int
		for _, b := range reached {
			levels := levelsOf(b)
			if len(levels) == 0 {
				return steps
			}
			next = append(next, levels...)
		}
		slices.SortFunc(next, slices.Compare[[]int])
		reached = slices.CompactFunc(next, slices.Equal)
		steps++
	}
}

// leadsTo returns, in order, all entries that levellings lead to from a row, its own among them.
func leadsTo(a []int) [][]int {
	all := [][]int{inOrder(a)}
	for i := 0; i < len(all); i++ {
		for _, level := range levelsOf(all[i]) {
			if !slices.ContainsFunc(all, func(b []int) bool { return slices.Equal(b, level) }) {
				all = append(all, level)
			}
		}
	}
	return all
}

// placesSum says again what EvenSum returns, by counting how often each place is told.
func placesSum(f []int, a []int) int {
	sum := 0
	for place, x := range f {
		for _, k := range a {
			if k == place {
				sum += x
			}
		}
	}
	return sum
}

// meetOf says again what EvenMeet returns, by trying all choices of entries.
func meetOf(a []int, b []int) []int {
	lesser := pairwise(topsTried(a), topsTried(b), func(x int, y int) int { return min(x, y) })
	return pairwise(lesser[1:], lesser[:len(a)], func(x int, y int) int { return x - y })
}

// stirred returns a row that comes from another one by taking some off entries and putting it to others, up to most at once.
func stirred(a []int, most int, seed int) []int {
	draw := draws(seed)
	b := slices.Clone(a)
	for range draw(2*len(a)) + 1 {
		i, k, x := draw(len(a)), draw(len(a)), draw(most)+1
		if i != k && b[i]-x >= -entryMax && b[k]+x <= entryMax {
			b[i] -= x
			b[k] += x
		}
	}
	return b
}

// unevenRows returns rows at the limits, with negative sums that are not divided evenly, with equal entries, and with entries that differ by 1 and by 2.
func unevenRows() [][]int {
	rows := [][]int{
		{0}, {7}, {-1}, {entryMax}, {-entryMax},
		{entryMax, -entryMax}, {-entryMax, entryMax}, {entryMax, entryMax}, {-entryMax, -entryMax}, {entryMax, -entryMax, -entryMax}, {entryMax, entryMax, -entryMax}, {entryMax, -entryMax, 1 - entryMax},
		{5, 0, 0}, {-5, 0, 0}, {0, -1}, {0, -3}, {-7, 0, 0}, {-1, -1, -2}, {0, 0, -4, 0, 0, 0, 0}, {-1000, -999, -1000}, {-1000, -998, -1000},
		{3, 3}, {3, 4}, {4, 3}, {3, 5}, {5, 3}, {3, 6}, {3, 4, 5}, {5, 4, 3}, {4, 5, 3}, {5, 5, 3, 3}, {5, 3, 5, 3}, {5, 4, 4, 3}, {6, 4, 4, 2}, {6, 6, 2, 2}, {2, 2, 2, 4, 4, 4}, {1, 3, 5, 7}, {7, 3, 1, 5}, {0, 2, 4, 6, 8, 10},
		append(filled(rowMax-1, 4), 5), append(filled(rowMax-1, 4), 6), append(filled(rowMax-1, 4), 3), append(filled(rowMax-1, 4), 2), slices.Concat(filled(6, 1), filled(6, 0)), slices.Concat(filled(6, 2), filled(6, 0)),
		slices.Concat(filled(6, entryMax), filled(6, -entryMax)), slices.Concat(filled(7, -entryMax), filled(5, entryMax)), append(filled(rowMax-1, -entryMax), entryMax), append(filled(rowMax-1, entryMax), -entryMax), append(filled(rowMax-1, -entryMax), 1-entryMax),
		counted(rowMax, -1000, 181), counted(rowMax, 11, -2), counted(rowMax, -6, 1), counted(rowMax-1, 5, -1),
	}
	for n := 1; n <= rowMax; n++ {
		rows = append(rows, filled(n, 0), filled(n, -3), append(filled(n-1, 0), -1), append(filled(n-1, -1), 0), append(filled(n-1, 0), n), append(filled(n-1, 0), -n-1))
	}
	return rows
}

// evenRows returns rows to be taken one by one.
func evenRows() [][]int {
	return slices.Concat(manyRows(), unevenRows(), rowsOf(4, -5, -1, 0, 2, 4))
}

// evenPairs returns pairs of rows that are alike and have one sum.
func evenPairs() [][2][]int {
	var pairs [][2][]int
	rows := slices.Concat(rowsOf(4, -1, 0, 1, 3), rowsOf(3, -1000, -999, 0, 998, 999, 1000), rowsOf(3, 0, 2, 4, 6, 5))
	for _, a := range rows {
		for _, b := range rows {
			if len(a) == len(b) && sumOf(a) == sumOf(b) {
				pairs = append(pairs, [2][]int{a, b})
			}
		}
	}
	for i, a := range slices.Concat(longRows(), unevenRows()) {
		even, _ := evenedOf(a)
		pairs = append(pairs, [2][]int{a, a}, [2][]int{a, backwards(a)}, [2][]int{inOrder(a), a}, [2][]int{even, a}, [2][]int{a, backwards(even)})
		for seed := range 12 {
			small, great := stirred(a, 3, 7*seed+i), stirred(a, 400, 11*seed+i)
			pairs = append(pairs, [2][]int{a, small}, [2][]int{small, a}, [2][]int{great, a}, [2][]int{a, great}, [2][]int{small, great})
		}
		for _, level := range levelsOf(a) {
			pairs = append(pairs, [2][]int{level, a}, [2][]int{a, level}, [2][]int{backwards(level), stirred(level, 2, i)})
		}
	}
	return pairs
}

// unequalPairs returns pairs of rows that are not alike, or have not one sum.
func unequalPairs() [][2][]int {
	pairs := [][2][]int{
		{{1, 1}, {2}}, {{2}, {1, 1}}, {{0}, {0, 0}}, {{0, 0}, {0}}, {{1, 1}, {2, 0, 0}}, {{2, 0, 0}, {1, 1}}, {filled(rowMax, 0), filled(rowMax-1, 0)}, {filled(rowMax-1, 0), filled(rowMax, 0)},
		{{0}, {1}}, {{1}, {0}}, {{-1}, {0}}, {{-entryMax}, {entryMax}}, {{1, 1}, {2, 1}}, {{1, 1}, {3, 0}}, {{1, 1}, {1, 0}}, {{1, 1}, {2, -1}}, {{3, 0}, {4, 0}}, {{4, 0}, {3, 0}},
		// The greatest sums are no greater as long as not all entries are taken, or all of them.
		{{2, 2, 2}, {3, 3, -1}}, {{2, 2, 2}, {3, 3, 1}}, {{0, 0, 0}, {9, 9, 9}}, {{9, 9, 9}, {0, 0, 0}}, {{0, -1}, {0, 0}}, {filled(rowMax, 1), append(filled(rowMax-1, 1), 2)}, {filled(rowMax, 1), append(filled(rowMax-1, 1), 0)},
	}
	for _, a := range rowsOf(3, -1, 0, 2) {
		for _, b := range rowsOf(3, 0, 1, 2) {
			if len(a) != len(b) || sumOf(a) != sumOf(b) {
				pairs = append(pairs, [2][]int{a, b})
			}
		}
	}
	return pairs
}

// placeRows returns rows of places of a row of n entries, the first place and the last one among them.
func placeRows(n int) [][]int {
	last := n - 1
	rows := [][]int{{0}, {last}, {0, last}, {last, 0}, {last / 2}, filled(rowMax, 0), filled(rowMax, last), filled(rowMax-1, last/2), append(filled(rowMax-1, 0), last), append(filled(rowMax-1, last), 0), slices.Concat(filled(6, last), filled(6, 0))}
	draw := draws(n)
	for count := 1; count <= rowMax; count++ {
		for range 6 {
			a := filled(count, 0)
			for i := range a {
				a[i] = draw(n)
			}
			rows = append(rows, a)
		}
	}
	return rows
}

// evenBent returns bent rows whose entries are added up.
func evenBent() [][]int {
	rows := slices.Concat(rowsOf(3, -1, 0, 2), rowsOf(2, -1000, 0, 1000), longRows())
	rows = append(rows, []int{5}, []int{-entryMax}, []int{entryMax}, []int{9, 4, 1, 0, 1, 4}, []int{1000, 0, -900, -1000}, counted(rowMax, 1000, -181), counted(rowMax, -11, 2))
	return bentOnes(rows)
}

// noPlaces returns numbers that are no places of a row of n entries.
func noPlaces(n int) []int {
	return append(outside(), -1, -2, -n, n, n+1, 2*n, rowMax, -rowMax, entryMax, -entryMax)
}

// squares returns the row of the squares of 0 to 11.
func squares() []int {
	return []int{0, 1, 4, 9, 16, 25, 36, 49, 64, 81, 100, 121}
}

// wantRows checks a list of rows against the one that is told.
func wantRows(t *testing.T, got [][]int, ok bool, want [][]int, call string, args ...any) {
	t.Helper()
	if !ok || !sameTable(got, want) {
		t.Fatalf("%s of %v returned %v, %t; want %v, true", call, args, got, ok, want)
	}
}
