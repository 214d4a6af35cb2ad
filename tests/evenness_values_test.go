package tests

import (
	"slices"
	"testing"

	"loop.example/bentrows/impl"
)

func wantEven(t *testing.T, a []int, b []int, want bool) {
	t.Helper()
	if got := impl.EvenIs(a, b); got != want {
		t.Fatalf("EvenIs of %v and %v returned %t", a, b, got)
	}
}

func wantLevels(t *testing.T, a []int, want [][]int) {
	t.Helper()
	got, ok := impl.EvenLevels(a)
	wantRows(t, got, ok, want, "EvenLevels", a)
}

func wantMost(t *testing.T, a []int, want []int) {
	t.Helper()
	got, ok := impl.EvenMost(a)
	wantList(t, got, ok, want, "EvenMost", a)
}

func wantSteps(t *testing.T, a []int, want int) {
	t.Helper()
	got, ok := impl.EvenSteps(a)
	wantNumber(t, got, ok, want, true, "EvenSteps", a)
}

func wantMeet(t *testing.T, a []int, b []int, want []int) {
	t.Helper()
	got, ok := impl.EvenMeet(a, b)
	wantList(t, got, ok, want, "EvenMeet", a, b)
}

func TestEvenIs(t *testing.T) {
	held, failed := 0, 0
	for _, p := range evenPairs() {
		want := isEven(p[0], p[1])
		wantEven(t, p[0], p[1], want)
		if want {
			held++
		} else {
			failed++
		}
	}
	if held < 2000 || failed < 2000 {
		t.Fatalf("EvenIs held for %d pairs, and not for %d", held, failed)
	}
	for _, c := range []struct {
		a, b []int
		want bool
	}{
		{[]int{3, 1}, []int{4, 0}, true},
		{[]int{4, 0}, []int{3, 1}, false},
		// Entries that are the same, and those in another order.
		{[]int{7}, []int{7}, true},
		{[]int{-1000}, []int{-1000}, true},
		{[]int{4, 0}, []int{4, 0}, true},
		{[]int{4, 0}, []int{0, 4}, true},
		{[]int{1, 2, 3}, []int{3, 1, 2}, true},
		{[]int{5, 5, 5}, []int{5, 5, 5}, true},
		{counted(rowMax, 0, 1), counted(rowMax, 11, -1), true},
		{[]int{0, 1000, -1000}, []int{-1000, 0, 1000}, true},
		// The order of the entries does not matter.
		{[]int{1, 3}, []int{4, 0}, true},
		{[]int{1, 3}, []int{0, 4}, true},
		{[]int{0, 4}, []int{1, 3}, false},
		{[]int{1, 2, 3, 6}, []int{0, 7, 2, 3}, true},
		// Equal entries.
		{[]int{2, 2, 2}, []int{3, 2, 1}, true},
		{[]int{2, 2, 2}, []int{2, 2, 2}, true},
		{[]int{4, 4, 1}, []int{5, 2, 2}, false},
		{[]int{5, 2, 2}, []int{4, 4, 1}, false},
		{[]int{3, 3, 0}, []int{4, 1, 1}, false},
		{[]int{4, 1, 1}, []int{3, 3, 0}, false},
		{[]int{2, 2, 0, 0}, []int{3, 1, 0, 0}, true},
		// Only one sum of k entries is greater: the first one, one between, or the last one but one.
		{[]int{6, 2, 2, 2}, []int{5, 4, 2, 1}, false},
		{[]int{5, 5, 1, 1}, []int{6, 3, 3, 0}, false},
		{[]int{4, 4, 4, 0}, []int{6, 4, 1, 1}, false},
		{[]int{9, 5, 5, 1}, []int{9, 6, 3, 2}, false},
		// The greatest and the least entries alone do not tell.
		{[]int{9, 8, 8, 0}, []int{10, 5, 5, 5}, false},
		{[]int{-1, -1, -2}, []int{0, -2, -2}, true},
		{[]int{-3, -3}, []int{0, -6}, true},
		{[]int{0, -6}, []int{-3, -3}, false},
		{[]int{0, 0}, []int{1000, -1000}, true},
		{[]int{1000, -1000}, []int{0, 0}, false},
		{[]int{999, -999}, []int{-1000, 1000}, true},
		{filled(rowMax, 0), slices.Concat(filled(6, -1000), filled(6, 1000)), true},
		{filled(rowMax, 1), append(filled(rowMax-1, 0), rowMax), true},
		{append(filled(rowMax-1, 0), rowMax), filled(rowMax, 1), false},
	} {
		wantEven(t, c.a, c.b, c.want)
	}
}

// TestEvenIsLevelled asks for small rows whether levellings lead from one to the other.
func TestEvenIsLevelled(t *testing.T) {
	held := 0
	rows := slices.Concat(rowsOf(4, 0, 1, 2, 3), rowsOf(3, -4, -1, 0, 3, 5))
	for _, b := range rows {
		all := leadsTo(b)
		for _, a := range rows {
			want := slices.ContainsFunc(all, func(c []int) bool { return slices.Equal(c, inOrder(a)) })
			wantEven(t, a, b, want)
			if want {
				held++
			}
		}
	}
	if held < 2000 {
		t.Fatalf("EvenIs held only %d times", held)
	}
}

// TestEvenIsTried tries all choices of entries of rows of all lengths.
func TestEvenIsTried(t *testing.T) {
	for i, p := range evenPairs() {
		if i%17 != 0 {
			continue
		}
		a, b := topsTried(p[0]), topsTried(p[1])
		wantEven(t, p[0], p[1], a[len(p[0])] == b[len(p[1])] && isBelow(a, b))
	}
}

func TestEvenLevels(t *testing.T) {
	none, several := 0, 0
	for _, a := range evenRows() {
		levels := levelsOf(a)
		wantLevels(t, a, levels)
		switch len(levels) {
		case 0:
			none++
		case 1:
		default:
			several++
		}
	}
	if none < 100 || several < 500 {
		t.Fatalf("EvenLevels returned no rows for %d rows, and several ones for %d", none, several)
	}
	for _, c := range []struct {
		row  []int
		want [][]int
	}{
		{[]int{4, 0}, [][]int{{3, 1}}},
		{[]int{0, 4}, [][]int{{3, 1}}},
		{[]int{5, 0, 0}, [][]int{{4, 1, 0}}},
		// Nothing can be levelled: one entry, equal ones, or those that differ by 1.
		{[]int{7}, nil},
		{[]int{-1000}, nil},
		{[]int{3, 3}, nil},
		{[]int{3, 4}, nil},
		{[]int{4, 3}, nil},
		{filled(rowMax, 1000), nil},
		{slices.Concat(filled(5, 1), filled(7, 0)), nil},
		{[]int{0, -1, 0, -1}, nil},
		// Entries that differ by 2 become the same.
		{[]int{3, 5}, [][]int{{4, 4}}},
		{[]int{-1, 1}, [][]int{{0, 0}}},
		{[]int{3, 4, 5}, [][]int{{4, 4, 4}}},
		{[]int{3, 6}, [][]int{{5, 4}}},
		// Equal entries: several levellings lead to the same entries.
		{[]int{5, 5, 3, 3}, [][]int{{5, 4, 4, 3}}},
		{[]int{3, 5, 3, 5}, [][]int{{5, 4, 4, 3}}},
		{[]int{6, 6, 2, 2}, [][]int{{6, 5, 3, 2}}},
		{slices.Concat(filled(6, 2), filled(6, 0)), [][]int{slices.Concat(filled(5, 2), filled(2, 1), filled(5, 0))}},
		{append(filled(rowMax-1, 0), 2), [][]int{slices.Concat(filled(2, 1), filled(rowMax-2, 0))}},
		// Several rows, in ascending order.
		{[]int{4, 2, 0}, [][]int{{3, 2, 1}, {3, 3, 0}, {4, 1, 1}}},
		{[]int{0, 4, 2}, [][]int{{3, 2, 1}, {3, 3, 0}, {4, 1, 1}}},
		{[]int{6, 4, 4, 2}, [][]int{{5, 4, 4, 3}, {5, 5, 4, 2}, {6, 4, 3, 3}}},
		{[]int{1, 3, 5, 7}, [][]int{{6, 5, 3, 2}, {6, 5, 4, 1}, {6, 6, 3, 1}, {7, 4, 3, 2}, {7, 4, 4, 1}, {7, 5, 2, 2}}},
		{[]int{4, 3, 1, 0}, [][]int{{3, 3, 1, 1}, {3, 3, 2, 0}, {4, 2, 1, 1}, {4, 2, 2, 0}}},
		{[]int{-1000, 1000}, [][]int{{999, -999}}},
		{[]int{1000, 0, -1000}, [][]int{{999, 0, -999}, {999, 1, -1000}, {1000, -1, -999}}},
		{[]int{0, -2, -5}, [][]int{{-1, -2, -4}, {-1, -1, -5}, {0, -3, -4}}},
	} {
		wantLevels(t, c.row, c.want)
	}
}

func TestEvenMost(t *testing.T) {
	for _, a := range evenRows() {
		want, _ := evenedOf(a)
		wantMost(t, a, want)
	}
	for _, c := range []struct{ row, want []int }{
		{[]int{5, 0, 0}, []int{2, 2, 1}},
		{[]int{0, 0, 5}, []int{2, 2, 1}},
		{[]int{7}, []int{7}},
		{[]int{-1000}, []int{-1000}},
		{[]int{1000}, []int{1000}},
		{[]int{3, 3}, []int{3, 3}},
		{[]int{3, 4}, []int{4, 3}},
		{[]int{4, 3}, []int{4, 3}},
		{[]int{3, 5}, []int{4, 4}},
		{[]int{1, 2, 1}, []int{2, 1, 1}},
		{[]int{1000, -1000}, []int{0, 0}},
		{[]int{1000, 1000, -1000}, []int{334, 333, 333}},
		{[]int{1000, -1000, -1000}, []int{-333, -333, -334}},
		// Sums that are negative and not divided evenly.
		{[]int{0, -1}, []int{0, -1}},
		{[]int{-1, 0}, []int{0, -1}},
		{[]int{0, -3}, []int{-1, -2}},
		{[]int{-5, 0, 0}, []int{-1, -2, -2}},
		{[]int{-7, 0, 0}, []int{-2, -2, -3}},
		{[]int{-6, 0, 0}, []int{-2, -2, -2}},
		{[]int{-1000, -999, -1000}, []int{-999, -1000, -1000}},
		{[]int{-1000, -998, -1000}, []int{-999, -999, -1000}},
		{append(filled(rowMax-1, 0), -1), append(filled(rowMax-1, 0), -1)},
		{append(filled(rowMax-1, 0), -11), append([]int{0}, filled(rowMax-1, -1)...)},
		{append(filled(rowMax-1, 0), -13), append(filled(rowMax-1, -1), -2)},
		{append(filled(rowMax-1, -1000), -999), append([]int{-999}, filled(rowMax-1, -1000)...)},
		{append(filled(rowMax-1, 1000), -1000), slices.Concat(filled(4, 834), filled(8, 833))},
		{append(filled(rowMax-1, -1000), 1000), slices.Concat(filled(8, -833), filled(4, -834))},
		{filled(rowMax, 1000), filled(rowMax, 1000)},
		{filled(rowMax, -1000), filled(rowMax, -1000)},
		{counted(rowMax, 0, 1), slices.Concat(filled(6, 6), filled(6, 5))},
	} {
		wantMost(t, c.row, c.want)
	}
}

func TestEvenSteps(t *testing.T) {
	for _, a := range evenRows() {
		_, want := evenedOf(a)
		wantSteps(t, a, want)
	}
	for _, c := range []struct {
		row  []int
		want int
	}{
		{[]int{5, 0, 0}, 3},
		{[]int{0, 0, 5}, 3},
		{[]int{7}, 0},
		{[]int{3, 3}, 0},
		{[]int{3, 4}, 0},
		{[]int{3, 5}, 1},
		{[]int{3, 6}, 1},
		{[]int{3, 7}, 2},
		{[]int{3, 4, 5}, 1},
		{[]int{2, 2, 0}, 1},
		{[]int{2, 0, 0}, 1},
		{[]int{2, 2, 0, 0}, 2},
		{[]int{2, 1, 1, 0}, 1},
		{[]int{-5, 0, 0}, 3},
		{[]int{0, -1}, 0},
		{[]int{0, -3}, 1},
		{[]int{-1000, 1000}, 1000},
		{[]int{1000, -1000, -1000}, 1333},
		{[]int{1000, 1000, -1000}, 1333},
		{append(filled(rowMax-1, 0), rowMax), rowMax - 1},
		{append(filled(rowMax-1, 0), rowMax+1), rowMax - 1},
		{slices.Concat(filled(6, 1000), filled(6, -1000)), 6000},
		{append(filled(rowMax-1, 1000), -1000), 1833},
		{append(filled(rowMax-1, -1000), 1000), 1833},
		{filled(rowMax, -1000), 0},
	} {
		wantSteps(t, c.row, c.want)
	}
}

// TestEvenStepsFewest tries all levellings of small rows.
func TestEvenStepsFewest(t *testing.T) {
	for _, a := range slices.Concat(rowsOf(4, -1, 0, 2, 5), [][]int{{9, 0, 0, 0, 0}, {7, 7, 0, 0, 0, 1}, {-9, 0, 0}, {6, 5, 4, 3, 2, 1, 0}}) {
		wantSteps(t, a, fewestSteps(a))
	}
}

func TestEvenSum(t *testing.T) {
	for _, f := range evenBent() {
		for _, a := range placeRows(len(f)) {
			got, ok := impl.EvenSum(f, a)
			wantNumber(t, got, ok, placesSum(f, a), true, "EvenSum", f, a)
		}
	}
	for _, c := range []struct {
		f, a []int
		want int
	}{
		{[]int{0, 1, 4}, []int{2, 0}, 4},
		{[]int{0, 1, 4}, []int{1, 1}, 2},
		{[]int{4, 1, 0}, []int{0}, 4},
		{[]int{4, 1, 0}, []int{2}, 0},
		{[]int{4, 1, 0}, []int{0, 1, 2, 2, 1, 0}, 10},
		// A bent row of one entry has one place, which is the first one and the last one.
		{[]int{7}, []int{0}, 7},
		{[]int{-7}, []int{0, 0, 0}, -21},
		{[]int{1000}, filled(rowMax, 0), 12000},
		{[]int{-1000}, filled(rowMax, 0), -12000},
		{[]int{-1000, 1000}, []int{1, 0, 1}, 1000},
		{[]int{9, 3}, filled(rowMax, 1), 36},
		{squares(), counted(rowMax, 0, 1), 506},
		{squares(), filled(rowMax, 11), 1452},
		{filled(rowMax, 1000), counted(rowMax, 11, -1), 12000},
	} {
		got, ok := impl.EvenSum(c.f, c.a)
		wantNumber(t, got, ok, c.want, true, "EvenSum", c.f, c.a)
	}
}

func wantNoSum(t *testing.T, f []int, a []int) {
	t.Helper()
	got, ok := impl.EvenSum(f, a)
	wantNumber(t, got, ok, 0, false, "EvenSum", f, a)
}

func TestEvenSumFails(t *testing.T) {
	// Rows that are not bent, also where the places that are told lie ahead of what is not.
	for _, f := range append(slices.DeleteFunc(manyRows(), isBent), []int{0, 1, 0}, []int{0, 0, 0, 0, 1, 1}, []int{1, 2, 2}, append(filled(rowMax-1, 0), -1)) {
		for _, a := range [][]int{{0}, {len(f) - 1}, {0, 1}, filled(rowMax, 0), {len(f)}, {-1}, nil} {
			wantNoSum(t, f, a)
		}
	}
	for _, f := range evenBent() {
		for _, x := range noPlaces(len(f)) {
			if x >= 0 && x < len(f) {
				continue
			}
			for n := 1; n <= rowMax; n += 3 {
				for i := range n {
					a := filled(n, len(f)-1)
					a[i] = x
					wantNoSum(t, f, a)
				}
			}
		}
		for _, a := range noRows() {
			wantNoSum(t, f, a)
		}
		// Too many places, all of which are some of the row.
		wantNoSum(t, f, filled(rowMax+1, 0))
		wantNoSum(t, f, filled(rowMax+1, len(f)-1))
	}
	for _, f := range noRows() {
		for _, a := range append(noRows(), []int{0}, []int{0, 0}, []int{1}, filled(rowMax, 0)) {
			wantNoSum(t, f, a)
		}
	}
}

func TestEvenMeet(t *testing.T) {
	other := 0
	for i, p := range evenPairs() {
		// All choices of entries are tried, so that only some of the long rows are taken.
		if len(p[0]) > 6 && i%3 != 0 {
			continue
		}
		want := meetOf(p[0], p[1])
		wantMeet(t, p[0], p[1], want)
		if !sameEntries(want, p[0]) && !sameEntries(want, p[1]) {
			other++
		}
	}
	if other < 200 {
		t.Fatalf("EvenMeet has other entries than both rows only for %d pairs", other)
	}
	for _, c := range []struct{ a, b, want []int }{
		{[]int{4, 0}, []int{3, 1}, []int{3, 1}},
		{[]int{3, 1}, []int{4, 0}, []int{3, 1}},
		{[]int{0, 4}, []int{1, 3}, []int{3, 1}},
		{[]int{7}, []int{7}, []int{7}},
		{[]int{-1000}, []int{-1000}, []int{-1000}},
		{[]int{1000}, []int{1000}, []int{1000}},
		{[]int{1, 2, 3}, []int{1, 2, 3}, []int{3, 2, 1}},
		{[]int{1, 2, 3}, []int{3, 1, 2}, []int{3, 2, 1}},
		{[]int{5, 5, 5}, []int{5, 5, 5}, []int{5, 5, 5}},
		// None of both is more even.
		{[]int{4, 1, 1}, []int{3, 3, 0}, []int{3, 2, 1}},
		{[]int{6, 3, 3, 0}, []int{5, 5, 1, 1}, []int{5, 4, 2, 1}},
		{[]int{6, 2, 2, 2}, []int{5, 4, 2, 1}, []int{5, 3, 2, 2}},
		{[]int{-1, -1, -4}, []int{0, -3, -3}, []int{-1, -2, -3}},
		{[]int{1000, -1000, 0}, []int{-500, -500, 1000}, []int{1000, -500, -500}},
		{[]int{1000, -1000}, []int{-1000, 1000}, []int{1000, -1000}},
		{[]int{1000, 1000, -1000, -1000}, []int{0, 0, 0, 0}, []int{0, 0, 0, 0}},
		{[]int{1000, -500, -500}, []int{500, 500, -1000}, []int{500, 0, -500}},
		{append(filled(rowMax-1, 0), rowMax), filled(rowMax, 1), filled(rowMax, 1)},
		{slices.Concat(filled(6, 1000), filled(6, -1000)), slices.Concat(filled(6, -1000), filled(6, 1000)), slices.Concat(filled(6, 1000), filled(6, -1000))},
		{filled(rowMax, -1000), filled(rowMax, -1000), filled(rowMax, -1000)},
	} {
		wantMeet(t, c.a, c.b, c.want)
	}
}

// TestEvenMeetGreatest checks for small rows that what is more even than both is more even than what EvenMeet returns.
func TestEvenMeetGreatest(t *testing.T) {
	rows := slices.DeleteFunc(rowsOf(4, 0, 1, 2, 3, 5), func(a []int) bool { return !slices.Equal(a, inOrder(a)) })
	for _, a := range rows {
		for _, b := range rows {
			meet, ok := impl.EvenMeet(a, b)
			if !ok {
				continue
			}
			for _, c := range rows {
				if isEven(c, a) && isEven(c, b) && !isEven(c, meet) {
					t.Fatalf("EvenMeet of %v and %v returned %v, but %v is more even than both", a, b, meet, c)
				}
			}
		}
	}
}

// wantUneven checks that what is told of two rows fails.
func wantUneven(t *testing.T, a []int, b []int) {
	t.Helper()
	wantEven(t, a, b, false)
	meet, ok := impl.EvenMeet(a, b)
	wantNone(t, meet, ok, "EvenMeet", a, b)
}

func TestUnequalRows(t *testing.T) {
	for _, p := range unequalPairs() {
		wantUneven(t, p[0], p[1])
		wantUneven(t, p[1], p[0])
	}
}

func TestEvenOfNoRows(t *testing.T) {
	for _, a := range noRows() {
		levels, ok := impl.EvenLevels(a)
		wantNoTable(t, levels, ok, "EvenLevels", a)
		most, ok := impl.EvenMost(a)
		wantNone(t, most, ok, "EvenMost", a)
		steps, ok := impl.EvenSteps(a)
		wantNumber(t, steps, ok, 0, false, "EvenSteps", a)
		// What is no row is not even as even as itself, and no row that is as long, or has its sum, is.
		for _, b := range [][]int{nil, {}, {0}, a, backwards(a), filled(len(a), 0), {sumOf(a)}} {
			wantUneven(t, a, b)
			wantUneven(t, b, a)
		}
	}
	// Sums that wrap around are no reason to find rows even.
	wantUneven(t, []int{1 << 62, 1 << 62, 0}, []int{-1 << 62, -1 << 62, 0})
	wantUneven(t, []int{1<<63 - 1, 1}, []int{-1 << 63, 0})
	wantUneven(t, []int{1001, -1}, []int{1000, 0})
	wantUneven(t, []int{1000, -1000}, []int{1001, -1001})
	wantUneven(t, filled(rowMax+1, 1), filled(rowMax+1, 1))
}
