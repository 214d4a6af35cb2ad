package tests

import (
	"math"
	"slices"
	"testing"

	"loop.example/bentrows/impl"
)

// someFalls returns lists of numbers for LineBack.
func someFalls() [][]int {
	lists := rowsOf(3, -2, 0, 1, 5)
	lists = append(lists, filled(toldCount, 0), filled(toldCount, 1000), filled(toldCount, 10000), filled(toldCount, -1000), counted(toldCount, -1000, 10))
	lists = append(lists, []int{0, toldMax}, []int{toldMax, 0}, []int{-toldMax}, []int{toldMax}, []int{1000}, []int{-1000}, []int{1001}, []int{-1001})
	for _, a := range longRows() {
		falls := make([]int, toldCount)
		for i := range falls {
			falls[i] = fallOf(a, i-slopesMax)
		}
		lists = append(lists, a, falls)
	}
	return lists
}

func TestLineFall(t *testing.T) {
	for _, a := range manyRows() {
		for _, s := range someSlopes() {
			if got, ok := impl.LineFall(a, s); !ok || got != fallOf(a, s) {
				t.Fatalf("LineFall of %v and %d returned %d, %t; want %d", a, s, got, ok, fallOf(a, s))
			}
		}
	}
	for _, c := range []struct {
		row     []int
		s, want int
	}{
		{[]int{0, 1, 4}, 2, 1},
		{[]int{7}, 3000, -7},
		{[]int{-1000}, -3000, 1000},
		{filled(rowMax, -1000), 3000, 34000},
		{filled(rowMax, 1000), -3000, -1000},
		{filled(rowMax, 1000), 3000, 32000},
	} {
		if got, ok := impl.LineFall(c.row, c.s); !ok || got != c.want {
			t.Errorf("LineFall of %v and %d returned %d, %t; want %d", c.row, c.s, got, ok, c.want)
		}
	}
}

func TestLineFallFails(t *testing.T) {
	for _, a := range longRows() {
		for _, s := range beyond(slopeMax) {
			if got, ok := impl.LineFall(a, s); ok || got != 0 {
				t.Errorf("LineFall of %v and %d returned %d, %t", a, s, got, ok)
			}
		}
	}
	for _, a := range noRows() {
		for _, s := range []int{0, 1, -slopeMax, math.MinInt} {
			if got, ok := impl.LineFall(a, s); ok || got != 0 {
				t.Errorf("LineFall of %v and %d returned %d, %t", a, s, got, ok)
			}
		}
	}
}

func TestLineFalls(t *testing.T) {
	ends := []int{-slopesMax, -slopesMax + 1, -50, -1, 0, 1, 2, slopesMax - 1, slopesMax}
	for _, a := range append(longRows(), []int{4}, []int{-1000}, []int{1000}, []int{3, -4}) {
		for _, from := range ends {
			for _, to := range ends {
				var want []int
				for s := from; s <= to; s++ {
					want = append(want, fallOf(a, s))
				}
				got, ok := impl.LineFalls(a, from, to)
				if ok != (from <= to) || !slices.Equal(got, want) {
					t.Fatalf("LineFalls of %v from %d to %d returned %v, %t; want %v", a, from, to, got, ok, want)
				}
			}
		}
	}
}

func TestLineFallsFails(t *testing.T) {
	for _, a := range [][]int{{0}, {0, 1, 4}, filled(rowMax, 1000)} {
		for _, x := range beyond(slopesMax) {
			for _, y := range []int{0, -slopesMax, slopesMax, x, math.MinInt, math.MaxInt} {
				got, ok := impl.LineFalls(a, x, y)
				wantNone(t, got, ok, "LineFalls", a, x, y)
				got, ok = impl.LineFalls(a, y, x)
				wantNone(t, got, ok, "LineFalls", a, y, x)
			}
		}
		for _, c := range [][2]int{{1, 0}, {0, -1}, {slopesMax, -slopesMax}, {slopesMax, slopesMax - 1}, {-slopesMax + 1, -slopesMax}} {
			got, ok := impl.LineFalls(a, c[0], c[1])
			wantNone(t, got, ok, "LineFalls", a, c[0], c[1])
		}
	}
	for _, a := range noRows() {
		got, ok := impl.LineFalls(a, 0, 0)
		wantNone(t, got, ok, "LineFalls", a, 0, 0)
		got, ok = impl.LineFalls(a, -slopesMax, slopesMax)
		wantNone(t, got, ok, "LineFalls", a, -slopesMax, slopesMax)
	}
}

func TestLineMeets(t *testing.T) {
	for _, a := range manyRows() {
		for _, s := range someSlopes() {
			want := meetsOf(a, s)
			first, last, ok := impl.LineMeets(a, s)
			if !ok || first != want[0] || last != want[len(want)-1] {
				t.Fatalf("LineMeets of %v and %d returned %d, %d, %t; want the first and last one of %v", a, s, first, last, ok, want)
			}
		}
	}
	for _, c := range []struct {
		row            []int
		s, first, last int
	}{
		{[]int{5}, -3000, 0, 0},
		{[]int{5}, 3000, 0, 0},
		{[]int{0, 1, 4}, 2, 1, 1},
		{[]int{0, 1, 4}, 1, 0, 1},
		{[]int{0, 5, 0, 7}, 0, 0, 2},
		{[]int{-1000, 1000}, 2000, 0, 1},
		{[]int{1000, -1000}, -2000, 0, 1},
		{counted(rowMax, -5, 1), 1, 0, 11},
		{counted(rowMax, -5, 1), 2, 11, 11},
		{counted(rowMax, -5, 1), 0, 0, 0},
	} {
		if first, last, ok := impl.LineMeets(c.row, c.s); !ok || first != c.first || last != c.last {
			t.Errorf("LineMeets of %v and %d returned %d, %d, %t", c.row, c.s, first, last, ok)
		}
	}
}

func TestLineMeetsFails(t *testing.T) {
	for _, a := range longRows() {
		for _, s := range beyond(slopeMax) {
			if first, last, ok := impl.LineMeets(a, s); ok || first != 0 || last != 0 {
				t.Errorf("LineMeets of %v and %d returned %d, %d, %t", a, s, first, last, ok)
			}
		}
	}
	for _, a := range noRows() {
		for _, s := range []int{0, slopeMax, math.MaxInt} {
			if first, last, ok := impl.LineMeets(a, s); ok || first != 0 || last != 0 {
				t.Errorf("LineMeets of %v and %d returned %d, %d, %t", a, s, first, last, ok)
			}
		}
	}
}

func TestLineHang(t *testing.T) {
	for _, a := range manyRows() {
		got, ok := impl.LineHang(a)
		wantList(t, got, ok, hangOf(a), "LineHang", a)
	}
	for _, c := range []struct{ row, want []int }{
		{[]int{5}, []int{5}},
		{[]int{-1000}, []int{-1000}},
		{[]int{1000}, []int{1000}},
		{[]int{1000, -1000}, []int{1000, -1000}},
		{[]int{0, 5, 2}, []int{0, 1, 2}},
		{[]int{0, 5, 1}, []int{0, 0, 1}},
		{[]int{1, 5, 0}, []int{1, 0, 0}},
		{[]int{0, 9, 9, 2}, []int{0, 0, 1, 2}},
		{[]int{0, 9, 9, -2}, []int{0, -1, -2, -2}},
		{[]int{-1000, 1000, -1000}, []int{-1000, -1000, -1000}},
	} {
		got, ok := impl.LineHang(c.row)
		wantList(t, got, ok, c.want, "LineHang", c.row)
	}
	for _, a := range noRows() {
		got, ok := impl.LineHang(a)
		wantNone(t, got, ok, "LineHang", a)
	}
}

// TestHangIsGreatest compares what hangs below small rows with all bent rows below them.
func TestHangIsGreatest(t *testing.T) {
	small := bentOnes(rowsOf(5, 0, 1, 2, 3))
	for _, a := range rowsOf(5, 0, 1, 3) {
		want := filled(len(a), 0)
		for _, b := range small {
			if isBelow(b, a) {
				want = pairwise(want, b, func(x int, y int) int { return max(x, y) })
			}
		}
		if slices.Min(a) == 0 {
			got, ok := impl.LineHang(a)
			wantList(t, got, ok, want, "LineHang", a)
		}
	}
}

func TestLineBack(t *testing.T) {
	for _, falls := range someFalls() {
		for _, from := range []int{-slopesMax, -slopesMax + 1, -2, -1, 0, 1, 2, slopesMax - 1, slopesMax} {
			for n := 1; n <= rowMax; n++ {
				got, ok := impl.LineBack(n, from, falls)
				wantList(t, got, ok, backOf(n, from, falls), "LineBack", n, from, falls)
			}
		}
	}
	for _, c := range []struct {
		n, from     int
		falls, want []int
	}{
		{1, 0, []int{-4}, []int{4}},
		{3, 1, []int{0}, []int{0, 1, 2}},
		{3, -1, []int{0, 0, 1}, []int{0, 0, 1}},
		{1, 100, filled(toldCount, -1000), []int{1000}},
		{4, 100, filled(toldCount, 0), []int{0, 300, 600, 900}},
		{1, -100, []int{toldMax, -1000, toldMax}, []int{1000}},
		{rowMax, -90, []int{-1000}, counted(rowMax, 1000, -90)},
	} {
		got, ok := impl.LineBack(c.n, c.from, c.falls)
		wantList(t, got, ok, c.want, "LineBack", c.n, c.from, c.falls)
	}
}

func TestLineBackFails(t *testing.T) {
	for _, n := range []int{0, -1, rowMax + 1, 100, 1 << 32, math.MaxInt, math.MinInt} {
		got, ok := impl.LineBack(n, 0, []int{0})
		wantNone(t, got, ok, "LineBack", n, 0, []int{0})
	}
	for _, from := range beyond(slopesMax) {
		for _, n := range []int{1, 2, rowMax} {
			got, ok := impl.LineBack(n, from, []int{0})
			wantNone(t, got, ok, "LineBack", n, from, []int{0})
		}
	}
	for _, falls := range [][]int{nil, {}, filled(toldCount+1, 0), filled(1000, 0)} {
		got, ok := impl.LineBack(1, 0, falls)
		wantNone(t, got, ok, "LineBack", 1, 0, falls)
	}
	for _, x := range beyond(toldMax) {
		for i := range 3 {
			falls := filled(3, 0)
			falls[i] = x
			got, ok := impl.LineBack(1, 0, falls)
			wantNone(t, got, ok, "LineBack", 1, 0, falls)
		}
	}
}

// TestLineBackNoRow takes arguments that are as told, but whose result is no row.
func TestLineBackNoRow(t *testing.T) {
	for _, c := range []struct {
		n, from int
		falls   []int
	}{
		{1, 0, []int{1001}},
		{1, 0, []int{-1001}},
		{1, 0, []int{toldMax}},
		{1, 0, []int{-toldMax}},
		{2, 1, []int{-1000}},
		{2, -1, []int{1000}},
		{rowMax, 91, []int{0}},
		{rowMax, -91, []int{0}},
		{5, 100, filled(toldCount, 0)},
	} {
		got, ok := impl.LineBack(c.n, c.from, c.falls)
		wantNone(t, got, ok, "LineBack", c.n, c.from, c.falls)
	}
}

func TestLineCorners(t *testing.T) {
	for _, a := range manyRows() {
		got, ok := impl.LineCorners(a)
		if want := cornersOf(a); !ok || !slices.Equal(got, want) {
			t.Fatalf("LineCorners of %v returned %v, %t; want %v", a, got, ok, want)
		}
	}
	for _, c := range []struct{ row, want []int }{
		{[]int{5}, []int{0}},
		{[]int{-1000}, []int{0}},
		{[]int{1000, -1000}, []int{0, 1}},
		{[]int{0, 1, 0}, []int{0, 2}},
		{[]int{0, 1, 1}, []int{0, 2}},
		// The line between both ends has no whole slope, but those beside it meet all places.
		{[]int{0, 0, 1}, []int{0, 1, 2}},
		{[]int{0, 9, 1, 9, 9, 4}, []int{0, 2, 5}},
		{filled(rowMax, -1000), counted(rowMax, 0, 1)},
	} {
		if got, ok := impl.LineCorners(c.row); !ok || !slices.Equal(got, c.want) {
			t.Errorf("LineCorners of %v returned %v, %t; want %v", c.row, got, ok, c.want)
		}
	}
	for _, a := range noRows() {
		got, ok := impl.LineCorners(a)
		wantNone(t, got, ok, "LineCorners", a)
	}
}

func TestLineWhole(t *testing.T) {
	for _, a := range manyRows() {
		if impl.LineWhole(a) != isBent(a) {
			t.Fatalf("LineWhole of %v is %t", a, impl.LineWhole(a))
		}
	}
	for _, a := range [][]int{{5}, {-1000}, {1000, -1000}, filled(rowMax, 1000), {0, 0, 1}} {
		if !impl.LineWhole(a) {
			t.Errorf("LineWhole does not hold for %v", a)
		}
	}
	for _, a := range noRows() {
		if impl.LineWhole(a) {
			t.Errorf("LineWhole holds for %v, which is no row", a)
		}
	}
}

func TestLineBetween(t *testing.T) {
	for _, p := range awayPairs() {
		first, slope, ok := impl.LineBetween(p[0], p[1])
		x, s, found := betweenOf(p[0], p[1])
		if !found || !ok || first != x || slope != s {
			t.Fatalf("LineBetween of %v and %v returned %d, %d, %t; want %d, %d, %t", p[0], p[1], first, slope, ok, x, s, found)
		}
	}
	for _, c := range []struct {
		low, high    []int
		first, slope int
	}{
		{[]int{0, 0}, []int{1, 3}, 1, -1},
		{[]int{0}, []int{5}, 0, -2000},
		{[]int{-1000}, []int{1000}, -1000, -2000},
		{[]int{1000}, []int{1000}, 1000, -2000},
		{[]int{-1000, -1000}, []int{1000, 1000}, 1000, -2000},
		{[]int{-1000, 1000}, []int{-1000, 1000}, -1000, 2000},
		{[]int{0, 2, 1}, []int{3, 2, 2}, 3, -1},
		{filled(rowMax, -1000), filled(rowMax, 1000), 991, -181},
		{filled(rowMax, 1000), filled(rowMax, 1000), 1000, 0},
	} {
		if first, slope, ok := impl.LineBetween(c.low, c.high); !ok || first != c.first || slope != c.slope {
			t.Errorf("LineBetween of %v and %v returned %d, %d, %t; want %d, %d", c.low, c.high, first, slope, ok, c.first, c.slope)
		}
	}
}

func TestLineBetweenFails(t *testing.T) {
	for _, low := range fewRows() {
		for _, high := range fewRows() {
			want := isBelow(low, high) && isBent(turned(low)) && isBent(high)
			first, slope, ok := impl.LineBetween(low, high)
			if ok != want || !ok && (first != 0 || slope != 0) {
				t.Fatalf("LineBetween of %v and %v returned %d, %d, %t", low, high, first, slope, ok)
			}
		}
	}
	for _, c := range [][2][]int{
		{{1}, {0}},
		{{0, 0, 1}, {5, 5, 5}},
		{{0, 0, 0}, {5, 5, 4}},
		{{0, 1, 0}, {1, 0, 1}},
		{{0, 0, 0}, {1, 0, -1}},
		{{0, 0}, {0, 0, 0}},
		{{1, 0}, {2}},
		{append(filled(rowMax-1, 0), 1), filled(rowMax, 1000)},
		{filled(rowMax, -1000), append(filled(rowMax-1, 0), -1)},
	} {
		wantNoLine(t, c[0], c[1])
	}
	for _, a := range noRows() {
		for _, b := range append(noRows(), filled(max(len(a), 1), 0), filled(max(len(a), 1), 1000)) {
			wantNoLine(t, a, b)
			wantNoLine(t, b, a)
			wantNoLine(t, turned(b), a)
		}
		wantNoLine(t, a, a)
	}
}

func wantNoLine(t *testing.T, low []int, high []int) {
	t.Helper()
	if first, slope, ok := impl.LineBetween(low, high); ok || first != 0 || slope != 0 {
		t.Fatalf("LineBetween of %v and %v returned %d, %d, %t", low, high, first, slope, ok)
	}
}
