package tests

import "slices"

const (
	timesMax = 5
	manyMax  = 4
)

// mergedOf says again to which list two rows are merged, by putting each sum to its place; it may be no row.
func mergedOf(a []int, b []int) []int {
	merged := filled(len(a)+len(b)-1, 1<<40)
	for i, x := range a {
		for j, y := range b {
			merged[i+j] = min(merged[i+j], x+y)
		}
	}
	return merged
}

// firstOf says again from which places of the first row the entries of a merged list come, the least ones.
func firstOf(a []int, b []int) []int {
	merged := mergedOf(a, b)
	first := filled(len(merged), -1)
	for i := len(a) - 1; i >= 0; i-- {
		for j, y := range b {
			if a[i]+y == merged[i+j] {
				first[i+j] = i
			}
		}
	}
	return first
}

// slopesMerged says again what MergeSlopes returns for bent rows, by always taking the lesser one of the next slopes; it may be no row.
func slopesMerged(a []int, b []int) []int {
	merged := []int{a[0] + b[0]}
	for i, j := 0, 0; i+1 < len(a) || j+1 < len(b); {
		slope := 0
		if j+1 == len(b) || i+1 < len(a) && a[i+1]-a[i] < b[j+1]-b[j] {
			slope = a[i+1] - a[i]
			i++
		} else {
			slope = b[j+1] - b[j]
			j++
		}
		merged = append(merged, merged[len(merged)-1]+slope)
	}
	return merged
}

// manyOf says again to which row some rows are merged, one behind the other, or returns nil if one of these steps leads to no row.
func manyOf(rows [][]int) []int {
	merged := rows[0]
	for _, next := range rows[1:] {
		if merged = mergedOf(merged, next); !isRow(merged) {
			return nil
		}
	}
	return merged
}

// restOf says again what MergeRest returns; it may be no row.
func restOf(c []int, a []int) []int {
	rest := filled(len(c)-len(a)+1, -1<<40)
	for k, x := range c {
		for i, y := range a {
			if k >= i && k-i < len(rest) {
				rest[k-i] = max(rest[k-i], x-y)
			}
		}
	}
	return rest
}

// halfOf says again what MergeHalf returns; it may be no row.
func halfOf(a []int, n int) []int {
	return mergedOf(a, a)[:n]
}

// mergeRows returns rows to be merged in pairs: small ones, those at the limits, and long ones, whose merged row is just short enough, or too long.
func mergeRows() [][]int {
	rows := fewRows()
	for _, n := range []int{4, 6, 7, rowMax - 1, rowMax} {
		rows = append(rows, filled(n, 0), filled(n, 500), filled(n, -500), counted(n, -250, 45), counted(n, 3, -1))
	}
	rows = append(rows, []int{501}, []int{-501}, []int{3, 3, 0, 3}, []int{0, 4, 1, 1, 5})
	return append(rows, []int{9, 4, 1, 0, 1, 4}, []int{500, 100, -200, -500}, []int{-500, 0, 500})
}

// bentMergeRows returns bent rows to be merged in pairs.
func bentMergeRows() [][]int {
	return bentOnes(append(mergeRows(), rowsOf(4, -3, 0, 1)...))
}

// someLists returns one to four rows each, to be merged one behind the other.
func someLists() [][][]int {
	rows := rowsOf(2, -1, 0, 2)
	rows = append(rows, []int{1000}, []int{-1000}, []int{1}, []int{0, 1, 4}, []int{5, 0, 5, 0}, filled(5, 0), filled(rowMax, 7))
	lists := [][][]int{}
	for _, a := range rows {
		lists = append(lists, [][]int{a})
		for _, b := range rows {
			lists = append(lists, [][]int{a, b})
			for _, c := range rows {
				lists = append(lists, [][]int{a, b, c}, [][]int{a, c, b, a}, [][]int{c, {0}, b, a})
			}
		}
	}
	return lists
}

// unitRows returns rows whose first entry is 0.
func unitRows() [][]int {
	rows := [][]int{{0}}
	for _, a := range manyRows() {
		if a = slices.Concat([]int{0}, a); isRow(a) {
			rows = append(rows, a)
		}
	}
	return rows
}
