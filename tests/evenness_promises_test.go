package tests

import (
	"slices"
	"testing"

	"loop.example/bentrows/impl"
)

// mustEven returns EvenMost of a row.
func mustEven(t *testing.T, a []int) []int {
	t.Helper()
	even, ok := impl.EvenMost(a)
	if !ok {
		t.Fatalf("EvenMost of %v failed", a)
	}
	return even
}

// mustLevel returns EvenLevels of a row.
func mustLevel(t *testing.T, a []int) [][]int {
	t.Helper()
	levels, ok := impl.EvenLevels(a)
	if !ok {
		t.Fatalf("EvenLevels of %v failed", a)
	}
	return levels
}

// mustStep returns EvenSteps of a row.
func mustStep(t *testing.T, a []int) int {
	t.Helper()
	steps, ok := impl.EvenSteps(a)
	if !ok {
		t.Fatalf("EvenSteps of %v failed", a)
	}
	return steps
}

// mustAdd returns EvenSum of a bent row and places of it.
func mustAdd(t *testing.T, f []int, a []int) int {
	t.Helper()
	sum, ok := impl.EvenSum(f, a)
	if !ok {
		t.Fatalf("EvenSum of %v and %v failed", f, a)
	}
	return sum
}

func TestPromise62(t *testing.T) {
	same, more := 0, 0
	for _, p := range slices.Concat(evenPairs(), unequalPairs()) {
		a, b := p[0], p[1]
		if sameEntries(a, b) != (impl.EvenIs(a, b) && impl.EvenIs(b, a)) {
			t.Fatalf("EvenIs of %v and %v returned %t, and exchanged %t", a, b, impl.EvenIs(a, b), impl.EvenIs(b, a))
		}
		if !impl.EvenIs(a, b) {
			continue
		}
		if len(a) != len(b) || sumOf(a) != sumOf(b) || slices.Max(a) > slices.Max(b) || slices.Min(a) < slices.Min(b) {
			t.Fatalf("EvenIs holds for %v and %v", a, b)
		}
		if sameEntries(a, b) {
			same++
		} else {
			more++
		}
	}
	if same < 500 || more < 2000 {
		t.Fatalf("EvenIs held for %d pairs with the same entries, and for %d others", same, more)
	}
}

// placePairs returns pairs of rows of places of a row of n entries that are alike and have one sum.
func placePairs(n int) [][2][]int {
	var pairs [][2][]int
	rows := slices.DeleteFunc(slices.Concat(rowsOf(3, counted(n, 0, 1)...), placeRows(n)), func(a []int) bool { return slices.Max(a) >= n })
	for _, a := range rows {
		even, _ := evenedOf(a)
		pairs = append(pairs, [2][]int{even, a}, [2][]int{a, backwards(a)})
		for _, level := range levelsOf(a) {
			pairs = append(pairs, [2][]int{level, a}, [2][]int{even, level})
		}
	}
	for _, p := range evenPairs() {
		if low, high := slices.Min(slices.Concat(p[0], p[1])), slices.Max(slices.Concat(p[0], p[1])); low >= 0 && high < n {
			pairs = append(pairs, p)
		}
	}
	return pairs
}

func TestPromise63(t *testing.T) {
	held, less := 0, 0
	for _, p := range placePairs(rowMax) {
		if !impl.EvenIs(p[0], p[1]) {
			continue
		}
		held++
		first, second := mustAdd(t, squares(), p[0]), mustAdd(t, squares(), p[1])
		if first > second {
			t.Fatalf("EvenIs holds for %v and %v, but their squares add up to %d and %d", p[0], p[1], first, second)
		}
		if first < second {
			less++
		}
	}
	if held < 1000 || less < 500 {
		t.Fatalf("EvenIs held only for %d pairs, and for %d with a lesser sum of squares", held, less)
	}
}

// TestPromise63Bent takes other bent rows, those of one entry among them.
func TestPromise63Bent(t *testing.T) {
	held := 0
	for _, f := range evenBent() {
		for i, p := range placePairs(len(f)) {
			if i%5 != 0 || !impl.EvenIs(p[0], p[1]) {
				continue
			}
			held++
			if first, second := mustAdd(t, f, p[0]), mustAdd(t, f, p[1]); first > second {
				t.Fatalf("EvenIs holds for %v and %v, but in %v they add up to %d and %d", p[0], p[1], f, first, second)
			}
		}
	}
	if held < 1000 {
		t.Fatalf("EvenIs held only for %d pairs", held)
	}
}

func TestPromise64(t *testing.T) {
	none, some := 0, 0
	for _, a := range evenRows() {
		levels := mustLevel(t, a)
		for _, level := range levels {
			if !impl.EvenIs(level, a) || impl.EvenIs(a, level) {
				t.Fatalf("EvenLevels of %v returned %v, but EvenIs %t, and exchanged %t", a, level, impl.EvenIs(level, a), impl.EvenIs(a, level))
			}
			if !slices.Equal(level, inOrder(level)) {
				t.Fatalf("EvenLevels of %v returned %v, which is not in order", a, level)
			}
		}
		for i := range levels {
			if i > 0 && slices.Compare(levels[i-1], levels[i]) >= 0 {
				t.Fatalf("EvenLevels of %v returned %v", a, levels)
			}
		}
		if even := mustEven(t, a); (len(levels) == 0) != sameEntries(a, even) {
			t.Fatalf("EvenLevels of %v returned %v, and EvenMost %v", a, levels, even)
		}
		if len(levels) == 0 {
			none++
		} else {
			some++
		}
	}
	if none < 100 || some < 1000 {
		t.Fatalf("EvenLevels returned no rows for %d rows, and some for %d", none, some)
	}
}

func TestPromise65(t *testing.T) {
	for _, a := range evenRows() {
		even := mustEven(t, a)
		if !impl.EvenIs(even, a) || slices.Max(even)-slices.Min(even) > 1 || !slices.Equal(even, inOrder(even)) {
			t.Fatalf("EvenMost of %v returned %v", a, even)
		}
		if again := mustEven(t, even); !slices.Equal(again, even) {
			t.Fatalf("EvenMost of %v returned %v, whose own is %v", a, even, again)
		}
	}
	for _, p := range evenPairs() {
		if even := mustEven(t, p[0]); !impl.EvenIs(even, p[1]) {
			t.Fatalf("EvenMost of %v returned %v, but EvenIs does not hold for it and %v", p[0], even, p[1])
		}
	}
}

func TestPromise66(t *testing.T) {
	none, some := 0, 0
	for _, a := range evenRows() {
		steps, levels := mustStep(t, a), mustLevel(t, a)
		if len(levels) == 0 {
			none++
			if steps != 0 {
				t.Fatalf("EvenSteps of %v returned %d, but nothing can be levelled", a, steps)
			}
			continue
		}
		some++
		least := 1 << 40
		for _, level := range levels {
			least = min(least, mustStep(t, level))
		}
		if steps != least+1 {
			t.Fatalf("EvenSteps of %v returned %d, but the least one behind a levelling is %d", a, steps, least)
		}
	}
	if none < 100 || some < 1000 {
		t.Fatalf("nothing could be levelled for %d rows, and something for %d", none, some)
	}
}

func TestPromise67(t *testing.T) {
	more, same := 0, 0
	for _, f := range evenBent() {
		for _, a := range placeRows(len(f)) {
			sum := mustAdd(t, f, a)
			if back := mustAdd(t, f, backwards(a)); back != sum {
				t.Fatalf("EvenSum of %v and %v returned %d, and backwards %d", f, a, sum, back)
			}
			even := mustAdd(t, f, mustEven(t, a))
			switch {
			case sum < even:
				t.Fatalf("EvenSum of %v and %v returned %d, but that of the most even places is %d", f, a, sum, even)
			case sum > even:
				more++
			default:
				same++
			}
		}
	}
	if more < 300 || same < 300 {
		t.Fatalf("EvenSum was more than that of the most even places %d times, and the same %d times", more, same)
	}
}

func TestPromise68(t *testing.T) {
	succeeded := 0
	for _, p := range slices.Concat(evenPairs(), unequalPairs()) {
		a, b := p[0], p[1]
		meet, ok := impl.EvenMeet(a, b)
		other, otherOk := impl.EvenMeet(b, a)
		if ok != otherOk || !slices.Equal(meet, other) {
			t.Fatalf("EvenMeet of %v and %v returned %v, %t, and exchanged %v, %t", a, b, meet, ok, other, otherOk)
		}
		if !ok {
			continue
		}
		succeeded++
		if !impl.EvenIs(meet, a) || !impl.EvenIs(meet, b) || !slices.Equal(meet, inOrder(meet)) || !impl.RowIn(meet) {
			t.Fatalf("EvenMeet of %v and %v returned %v", a, b, meet)
		}
	}
	if succeeded < 4000 {
		t.Fatalf("EvenMeet succeeded only %d times", succeeded)
	}
}

func TestPromise69(t *testing.T) {
	same, fewer := 0, 0
	for _, p := range slices.Concat(evenPairs(), unequalPairs()) {
		a, b := p[0], p[1]
		if !impl.EvenIs(a, b) {
			continue
		}
		if first, second := mustEven(t, a), mustEven(t, b); !slices.Equal(first, second) {
			t.Fatalf("EvenIs holds for %v and %v, but EvenMost is %v and %v", a, b, first, second)
		}
		first, second := mustStep(t, a), mustStep(t, b)
		switch {
		case first > second:
			t.Fatalf("EvenIs holds for %v and %v, but EvenSteps is %d and %d", a, b, first, second)
		case first < second:
			fewer++
		default:
			same++
		}
	}
	if same < 1000 || fewer < 1000 {
		t.Fatalf("EvenSteps was the same for %d pairs, and less for %d", same, fewer)
	}
}
