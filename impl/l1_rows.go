package impl

import (
	"iter"
	"slices"
)

// RowMax is the greatest number of entries of a row.
const RowMax = 12

// EntryMax is the greatest entry without its sign.
const EntryMax = 1000

// row is a list that is meant to be a row; isRow tells whether it is one.
type row []int

// entries yields each place with its entry.
func (r row) entries() iter.Seq2[int, int] {
	return func(yield func(int, int) bool) {
		for i, x := range r {
			if !yield(i, x) {
				return
			}
		}
	}
}

// slopes yields each entry but the first one less the one ahead of it.
func (r row) slopes() iter.Seq[int] {
	return func(yield func(int) bool) {
		for i := 1; i < len(r); i++ {
			if !yield(r[i] - r[i-1]) {
				return
			}
		}
	}
}

func (r row) isRow() bool {
	if len(r) < 1 || len(r) > RowMax {
		return false
	}
	for _, x := range r.entries() {
		if !entryFits(x) {
			return false
		}
	}
	return true
}

func (r row) isBent() bool {
	return slices.IsSorted(slices.Collect(r.slopes()))
}

// isAlike reports whether both lists are rows with as many entries.
func (r row) isAlike(other row) bool {
	return r.isRow() && other.isRow() && len(r) == len(other)
}

// isPlace reports whether a number is a place of the row.
func (r row) isPlace(i int) bool {
	return 0 <= i && i < len(r)
}

// checked returns the list and true, or nothing and false if it is no row.
func (r row) checked() ([]int, bool) {
	if !r.isRow() {
		return nil, false
	}
	return r, true
}

// changed returns the row of what change makes of each place and entry.
func (r row) changed(change func(i int, x int) int) ([]int, bool) {
	if !r.isRow() {
		return nil, false
	}
	result := make(row, len(r))
	for i, x := range r.entries() {
		result[i] = change(i, x)
	}
	return result.checked()
}

// joined returns the row of what join makes of the entries of two rows that are alike.
func (r row) joined(other row, join func(x int, y int) int) ([]int, bool) {
	if !r.isAlike(other) {
		return nil, false
	}
	return r.changed(func(i int, x int) int { return join(x, other[i]) })
}

// least returns the least entry, and the first and the last place where it stands.
func (r row) least() (entry int, first int, last int) {
	entry = r[0]
	for i, x := range r.entries() {
		if x < entry {
			entry, first = x, i
		}
		if x == entry {
			last = i
		}
	}
	return entry, first, last
}

func entryFits(x int) bool {
	return -EntryMax <= x && x <= EntryMax
}

// RowIn reports whether a list is a row.
func RowIn(a []int) bool {
	return row(a).isRow()
}

// RowSlopes returns the slopes of a row, and true.
func RowSlopes(a []int) ([]int, bool) {
	r := row(a)
	if !r.isRow() {
		return nil, false
	}
	return slices.Collect(r.slopes()), true
}

// RowFrom returns the row with a first entry and slopes, and true.
func RowFrom(first int, slopes []int) ([]int, bool) {
	if len(slopes) >= RowMax {
		return nil, false
	}
	r := row{first}
	for _, s := range slopes {
		// A sum that wraps around needs no check of its own: it is no entry, or the one ahead of it is none.
		r = append(r, r[len(r)-1]+s)
	}
	return r.checked()
}

// RowBent reports whether a row is bent.
func RowBent(a []int) bool {
	r := row(a)
	return r.isRow() && r.isBent()
}

// RowSum returns the row of the sums of the entries of two rows, place by place, and true.
func RowSum(a []int, b []int) ([]int, bool) {
	return row(a).joined(b, func(x int, y int) int { return x + y })
}

// RowTimes returns the row with all entries times k, k from -EntryMax to EntryMax, and true.
func RowTimes(a []int, k int) ([]int, bool) {
	if !entryFits(k) {
		return nil, false
	}
	return row(a).changed(func(_ int, x int) int { return x * k })
}

// RowBack returns the row with its entries backwards, and true.
func RowBack(a []int) ([]int, bool) {
	return row(a).changed(func(i int, _ int) int { return a[len(a)-1-i] })
}

// RowTilt returns the row with, for the place i, first and i times slope added to the entry, first and slope from -EntryMax to EntryMax, and true.
func RowTilt(a []int, first int, slope int) ([]int, bool) {
	if !entryFits(first) || !entryFits(slope) {
		return nil, false
	}
	return row(a).changed(func(i int, x int) int { return x + first + i*slope })
}

// RowHigh returns the row of the greater ones of the entries of two rows, and true.
func RowHigh(a []int, b []int) ([]int, bool) {
	return row(a).joined(b, func(x int, y int) int { return max(x, y) })
}

// RowLow returns the row of the lesser ones of the entries of two rows, and true.
func RowLow(a []int, b []int) ([]int, bool) {
	return row(a).joined(b, func(x int, y int) int { return min(x, y) })
}

// RowLeast returns the least entry, the first place and the last place where it stands, and true.
func RowLeast(a []int) (int, int, int, bool) {
	r := row(a)
	if !r.isRow() {
		return 0, 0, 0, false
	}
	entry, first, last := r.least()
	return entry, first, last, true
}

// RowBelow reports whether no entry of the first one of two rows is greater than that of the second one.
func RowBelow(a []int, b []int) bool {
	r := row(a)
	if !r.isAlike(b) {
		return false
	}
	for i, x := range r.entries() {
		if x > b[i] {
			return false
		}
	}
	return true
}

// RowPart returns the row of the entries from a place on up to another one, both told and among them, and true.
func RowPart(a []int, from int, to int) ([]int, bool) {
	r := row(a)
	if !r.isRow() || !r.isPlace(from) || !r.isPlace(to) || to < from {
		return nil, false
	}
	return slices.Clone(a[from : to+1]), true
}
