package tests

import (
	"testing"

	"loop.example/bentrows/impl"
)

func lineCalls() []rowCall {
	return []rowCall{
		{"LineFall", func(a []int, b []int) []int { impl.LineFall(a, 1); return nil }},
		{"LineFalls", func(a []int, b []int) []int { x, _ := impl.LineFalls(a, -1, 1); return x }},
		{"LineFalls of one slope", func(a []int, b []int) []int { x, _ := impl.LineFalls(a, 2, 2); return x }},
		{"LineMeets", func(a []int, b []int) []int { impl.LineMeets(a, 1); return nil }},
		{"LineHang", func(a []int, b []int) []int { x, _ := impl.LineHang(a); return x }},
		{"LineBack", func(a []int, b []int) []int { x, _ := impl.LineBack(len(a), -1, a); return x }},
		{"LineBack of one entry", func(a []int, b []int) []int { x, _ := impl.LineBack(1, 0, a); return x }},
		{"LineCorners", func(a []int, b []int) []int { x, _ := impl.LineCorners(a); return x }},
		{"LineBetween", func(a []int, b []int) []int { impl.LineBetween(a, b); return nil }},
		{"LineWhole", func(a []int, b []int) []int { impl.LineWhole(a); return nil }},
	}
}

// TestQuestionsStayApart asks about one row between two questions about another one.
func TestQuestionsStayApart(t *testing.T) {
	a, b := []int{0, 5, 2}, []int{1000, 1000, 1000}
	for range 2 {
		got, ok := impl.LineHang(a)
		wantList(t, got, ok, []int{0, 1, 2}, "LineHang", a)
		got, ok = impl.LineHang(b)
		wantList(t, got, ok, b, "LineHang", b)
		got, ok = impl.LineBack(3, 0, []int{0})
		wantList(t, got, ok, []int{0, 0, 0}, "LineBack", 3, 0, []int{0})
	}
}

// TestBetweenOneList takes one list as both arguments of LineBetween.
func TestBetweenOneList(t *testing.T) {
	a := []int{3, 5, 7}
	if first, slope, ok := impl.LineBetween(a, a); !ok || first != 3 || slope != 2 {
		t.Errorf("LineBetween of %v and itself returned %d, %d, %t", a, first, slope, ok)
	}
	bent := []int{0, 1, 4}
	if first, slope, ok := impl.LineBetween(bent, bent); ok || first != 0 || slope != 0 {
		t.Errorf("LineBetween of %v and itself returned %d, %d, %t", bent, first, slope, ok)
	}
}
