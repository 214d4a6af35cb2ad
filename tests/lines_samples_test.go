package tests

import "slices"

const (
	slopeMax   = 3000
	slopesMax  = 100
	betweenMax = 2000
	toldMax    = 100000
	toldCount  = 201
)

// turned returns a list with all signs turned.
func turned(a []int) []int {
	b := slices.Clone(a)
	for i := range b {
		b[i] = -b[i]
	}
	return b
}

// bentOnes returns the bent ones of some rows.
func bentOnes(rows [][]int) [][]int {
	return slices.DeleteFunc(slices.Clone(rows), func(a []int) bool { return !isBent(a) })
}

// isBelow says again that two lists are alike and no entry of the first one is greater.
func isBelow(a []int, b []int) bool {
	return len(a) == len(b) && slices.Min(append(pairwise(b, a, func(x int, y int) int { return x - y }), 0)) == 0
}

// awayPairs returns pairs of rows that bend away from each other, the low one ahead, many of them touching.
func awayPairs() [][2][]int {
	var pairs [][2][]int
	rows := bentOnes(append(rowsOf(4, -1, 0, 1, 2), rowsOf(3, -1000, -999, -1, 0, 7, 1000)...))
	rows = append(rows, bentOnes(longRows())...)
	for _, high := range rows {
		for _, other := range rows {
			low := turned(other)
			if len(low) != len(high) {
				continue
			}
			if isBelow(low, high) {
				pairs = append(pairs, [2][]int{low, high})
			}
			if low = touching(low, high); isRow(low) {
				pairs = append(pairs, [2][]int{low, high})
			}
		}
	}
	return pairs
}

// touching returns the first one of two lists, moved up or down until it is nowhere greater and touches the second one.
func touching(low []int, high []int) []int {
	gap := high[0] - low[0]
	for i := range low {
		gap = min(gap, high[i]-low[i])
	}
	return pairwise(low, filled(len(low), gap), func(x int, y int) int { return x + y })
}

// fallOf says again what the fall of a row is.
func fallOf(a []int, s int) int {
	lines := make([]int, len(a))
	for i, x := range a {
		lines[i] = s*i - x
	}
	return slices.Max(lines)
}

// meetsOf tells all places where the line of a slope meets a row.
func meetsOf(a []int, s int) []int {
	var places []int
	fall := fallOf(a, s)
	for i, x := range a {
		if s*i-fall == x {
			places = append(places, i)
		}
	}
	return places
}

// hangOf says again what hangs below a row, by trying all slopes that a row may have, and one more on both sides.
func hangOf(a []int) []int {
	hang := filled(len(a), -entryMax)
	for s := -2*entryMax - 1; s <= 2*entryMax+1; s++ {
		fall := fallOf(a, s)
		for i := range hang {
			hang[i] = max(hang[i], s*i-fall)
		}
	}
	return hang
}

// cornersOf says again where a row is met by lines, by trying all slopes that a row may have, and one more on both sides.
func cornersOf(a []int) []int {
	met := make([]bool, len(a))
	for s := -2*entryMax - 1; s <= 2*entryMax+1; s++ {
		for _, i := range meetsOf(a, s) {
			met[i] = true
		}
	}
	var corners []int
	for i, ok := range met {
		if ok {
			corners = append(corners, i)
		}
	}
	return corners
}

// backOf says again what LineBack returns; it may be no row.
func backOf(n int, from int, falls []int) []int {
	back := filled(n, -1<<40)
	for i := range back {
		for k, fall := range falls {
			back[i] = max(back[i], (from+k)*i-fall)
		}
	}
	return back
}

// betweenOf says again which line LineBetween returns, by trying all slopes.
func betweenOf(low []int, high []int) (int, int, bool) {
	for s := -betweenMax; s <= betweenMax; s++ {
		least, greatest := low[0], high[0]
		for i := range low {
			least = max(least, low[i]-s*i)
			greatest = min(greatest, high[i]-s*i)
		}
		if least <= greatest {
			return least, s, true
		}
	}
	return 0, 0, false
}

// beyond returns whole numbers that are greater, without their sign, than a limit.
func beyond(limit int) []int {
	list := []int{limit + 1, -limit - 1, 2*limit + 1, -10 * limit}
	return append(list, slices.DeleteFunc(outside(), func(x int) bool { return -limit <= x && x <= limit })...)
}
