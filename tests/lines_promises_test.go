package tests

import (
	"slices"
	"testing"

	"loop.example/bentrows/impl"
)

// ascends reports whether a list ascends strictly.
func ascends(a []int) bool {
	for i := 1; i < len(a); i++ {
		if a[i] <= a[i-1] {
			return false
		}
	}
	return true
}

// mustFall returns the fall of a row, which is not to fail.
func mustFall(t *testing.T, a []int, s int) int {
	t.Helper()
	fall, ok := impl.LineFall(a, s)
	if !ok {
		t.Fatalf("LineFall of %v and %d failed", a, s)
	}
	return fall
}

// mustHang returns the row that hangs below a row, which is not to fail.
func mustHang(t *testing.T, a []int) []int {
	t.Helper()
	hang, ok := impl.LineHang(a)
	if !ok {
		t.Fatalf("LineHang of %v failed", a)
	}
	return hang
}

// someSlopes are slopes for LineFall and LineMeets, those at both ends among them.
func someSlopes() []int {
	return []int{-slopeMax, -slopeMax + 1, -2001, -2000, -1999, -1000, -999, -100, -5, -4, -3, -2, -1, 0, 1, 2, 3, 4, 5, 90, 181, 998, 999, 1000, 1001, 1998, 1999, 2000, 2001, slopeMax - 1, slopeMax}
}

func TestPromise13(t *testing.T) {
	held := 0
	for _, a := range fewRows() {
		for _, b := range fewRows() {
			if !impl.RowBelow(a, b) {
				continue
			}
			held++
			for _, s := range []int{-3, 0, 3} {
				if mustFall(t, a, s) < mustFall(t, b, s) {
					t.Fatalf("LineFall of %v for %d is less than that of %v", a, s, b)
				}
			}
			if !impl.RowBelow(mustHang(t, a), mustHang(t, b)) {
				t.Fatalf("what hangs below %v is not below what hangs below %v", a, b)
			}
		}
	}
	if held < 1000 {
		t.Fatalf("RowBelow held only %d times", held)
	}
}

func TestPromise14(t *testing.T) {
	for _, a := range manyRows() {
		for _, s := range someSlopes() {
			fall, met := mustFall(t, a, s), false
			for i, x := range a {
				if x < s*i-fall {
					t.Fatalf("LineFall of %v and %d returned %d: the line is above the place %d", a, s, fall, i)
				}
				met = met || x == s*i-fall
			}
			if !met {
				t.Fatalf("LineFall of %v and %d returned %d: the line meets no entry", a, s, fall)
			}
		}
	}
}

func TestPromise15(t *testing.T) {
	for _, a := range manyRows() {
		hang := mustHang(t, a)
		for _, s := range someSlopes() {
			if mustFall(t, a, s) != mustFall(t, hang, s) {
				t.Fatalf("LineFall for %d is not the same for %v and for %v, which hangs below it", s, a, hang)
			}
		}
	}
}

func TestPromise16(t *testing.T) {
	for _, a := range manyRows() {
		for _, c := range [][2]int{{-slopesMax, slopesMax}, {-3, 4}, {slopesMax, slopesMax}} {
			falls, ok := impl.LineFalls(a, c[0], c[1])
			if !ok || len(falls) != c[1]-c[0]+1 {
				t.Fatalf("LineFalls of %v from %d to %d returned %v, %t", a, c[0], c[1], falls, ok)
			}
			ahead := 0
			for i := 1; i < len(falls); i++ {
				difference := falls[i] - falls[i-1]
				if difference < ahead || difference > len(a)-1 {
					t.Fatalf("LineFalls of %v from %d to %d returned %v", a, c[0], c[1], falls)
				}
				ahead = difference
			}
		}
	}
}

func TestPromise17(t *testing.T) {
	for _, a := range manyRows() {
		for _, s := range someSlopes() {
			first, last, ok := impl.LineMeets(a, s)
			if !ok {
				t.Fatalf("LineMeets of %v and %d failed", a, s)
			}
			if next, _, ok := impl.LineMeets(a, s+1); ok != (s < slopeMax) || ok && next < last {
				t.Fatalf("LineMeets of %v and %d ends at %d and that of %d begins at %d, %t", a, s, last, s+1, next, ok)
			}
			fall := mustFall(t, a, s)
			for i := first; i <= last && impl.RowBent(a); i++ {
				if a[i] != s*i-fall {
					t.Fatalf("LineMeets of %v and %d returned %d and %d, but %d is not met", a, s, first, last, i)
				}
			}
		}
	}
}

func TestPromise18(t *testing.T) {
	for _, a := range manyRows() {
		hang := mustHang(t, a)
		if !impl.RowBent(hang) || !impl.RowBelow(hang, a) {
			t.Fatalf("LineHang of %v returned %v", a, hang)
		}
		if again := mustHang(t, hang); !slices.Equal(again, hang) {
			t.Fatalf("LineHang of %v returned %v, and of this %v", a, hang, again)
		}
		if slices.Equal(hang, a) != impl.RowBent(a) {
			t.Fatalf("LineHang of %v returned %v, and RowBent is %t", a, hang, impl.RowBent(a))
		}
	}
}

func TestPromise19(t *testing.T) {
	held := 0
	for _, a := range bentOnes(append(rowsOf(4, 0, 1, 2, 3), fewRows()...)) {
		for _, b := range append(rowsOf(4, 0, 1, 3), fewRows()...) {
			if !impl.RowBelow(a, b) {
				continue
			}
			held++
			if hang := mustHang(t, b); !impl.RowBelow(a, hang) {
				t.Fatalf("the bent row %v is below %v, but not below %v, which hangs below it", a, b, hang)
			}
		}
	}
	if held < 1000 {
		t.Fatalf("RowBelow held only %d times", held)
	}
}

func TestPromise20(t *testing.T) {
	for _, a := range manyRows() {
		least, first, last, _ := impl.RowLeast(a)
		hang := mustHang(t, a)
		x, from, to, ok := impl.RowLeast(hang)
		if !ok || x != least || from > first || to < last {
			t.Fatalf("RowLeast of %v is %d, %d, %d and of %v, which hangs below it, %d, %d, %d", a, least, first, last, hang, x, from, to)
		}
	}
}

func TestPromise21(t *testing.T) {
	succeeded := 0
	for _, falls := range someFalls() {
		for _, from := range []int{-slopesMax, -7, -1, 0, 1, 3, slopesMax} {
			for n := 1; n <= rowMax; n++ {
				a, ok := impl.LineBack(n, from, falls)
				if !ok {
					continue
				}
				succeeded++
				if !impl.RowBent(a) {
					t.Fatalf("LineBack of %d, %d and %v returned %v", n, from, falls, a)
				}
				for i, told := range falls {
					if mustFall(t, a, from+i) > told {
						t.Fatalf("LineBack of %d, %d and %v returned %v: its fall for %d is greater", n, from, falls, a, from+i)
					}
				}
			}
		}
	}
	if succeeded < 1000 {
		t.Fatalf("LineBack succeeded only %d times", succeeded)
	}
}

func TestPromise22(t *testing.T) {
	held := 0
	for _, a := range append(manyRows(), []int{0, 100, 0, -100}, counted(rowMax, 0, 90), counted(rowMax, 600, -100)[:rowMax-1], []int{5, 105}, []int{5, -95}) {
		slopes, _ := impl.RowSlopes(a)
		if slices.ContainsFunc(slopes, func(s int) bool { return s < -slopesMax || s > slopesMax }) {
			continue
		}
		held++
		falls, ok := impl.LineFalls(a, -slopesMax, slopesMax)
		if !ok {
			t.Fatalf("LineFalls of %v failed", a)
		}
		back, ok := impl.LineBack(len(a), -slopesMax, falls)
		wantList(t, back, ok, mustHang(t, a), "LineBack", len(a), -slopesMax, falls)
	}
	if held < 1000 {
		t.Fatalf("only %d rows have such slopes", held)
	}
}

func TestPromise23(t *testing.T) {
	for _, a := range manyRows() {
		corners, ok := impl.LineCorners(a)
		_, first, last, _ := impl.RowLeast(a)
		if !ok || !ascends(corners) {
			t.Fatalf("LineCorners of %v returned %v, %t", a, corners, ok)
		}
		for _, i := range []int{0, len(a) - 1, first, last} {
			if !slices.Contains(corners, i) {
				t.Fatalf("LineCorners of %v returned %v, without %d", a, corners, i)
			}
		}
		if slices.Equal(corners, counted(len(a), 0, 1)) != impl.RowBent(a) {
			t.Fatalf("LineCorners of %v returned %v, and RowBent is %t", a, corners, impl.RowBent(a))
		}
	}
}

func TestPromise24(t *testing.T) {
	succeeded := 0
	for _, a := range fewRows() {
		for _, b := range fewRows() {
			first, slope, ok := impl.LineBetween(a, b)
			if !ok {
				continue
			}
			succeeded++
			line := counted(len(a), first, slope)
			if len(a) != len(b) || !isBelow(a, line) || !isBelow(line, b) {
				t.Fatalf("LineBetween of %v and %v returned %d and %d", a, b, first, slope)
			}
		}
	}
	if succeeded < 1000 {
		t.Fatalf("LineBetween succeeded only %d times", succeeded)
	}
}

func TestPromise25(t *testing.T) {
	pairs := awayPairs()
	for _, p := range pairs {
		low, high := p[0], p[1]
		if !impl.RowBelow(low, high) || !impl.RowBent(turned(low)) || !impl.RowBent(high) {
			t.Fatalf("%v and %v do not bend away from each other", low, high)
		}
		first, slope, ok := impl.LineBetween(low, high)
		line := counted(len(low), first, slope)
		if !ok || !isBelow(low, line) || !isBelow(line, high) {
			t.Fatalf("LineBetween of %v and %v returned %d, %d, %t", low, high, first, slope, ok)
		}
	}
	if len(pairs) < 1000 {
		t.Fatalf("only %d pairs bend away from each other", len(pairs))
	}
}

func TestPromise26(t *testing.T) {
	for _, a := range manyRows() {
		if impl.LineWhole(a) != impl.RowBent(a) {
			t.Fatalf("LineWhole of %v is %t, and RowBent is not", a, impl.LineWhole(a))
		}
	}
}

func TestPromise27(t *testing.T) {
	succeeded := 0
	for _, a := range manyRows() {
		for _, first := range []int{-1000, -2, 0, 5, 1000} {
			for _, slope := range []int{-slopesMax, -7, -1, 0, 1, 90, slopesMax} {
				tilted, ok := impl.RowTilt(a, first, slope)
				if !ok {
					continue
				}
				succeeded++
				if mustFall(t, tilted, slope) != mustFall(t, a, 0)-first {
					t.Fatalf("LineFall of %v for %d is not that of %v for 0 less %d", tilted, slope, a, first)
				}
			}
		}
	}
	if succeeded < 1000 {
		t.Fatalf("RowTilt succeeded only %d times", succeeded)
	}
}
