package tests

import (
	"math"
	"regexp"
	"slices"
	"strings"
	"testing"
)

const (
	// termMax is the greatest number of bytes of a term.
	termMax = 40
	// termRowMax is the greatest number of entries of a row that a term tells.
	termRowMax = 6
)

var (
	shortTerm  = regexp.MustCompile(`-x|[0-9xv]`)
	joinedTerm = regexp.MustCompile(`\(#[+|&]#\)`)
)

// isTerm says again what the document calls a term, by putting # in place of each term in it until nothing changes.
func isTerm(s string) bool {
	if len(s) > termMax || strings.Contains(s, "#") {
		return false
	}
	s = shortTerm.ReplaceAllLiteralString(s, "#")
	for joinedTerm.MatchString(s) {
		s = joinedTerm.ReplaceAllLiteralString(s, "#")
	}
	return s == "#"
}

// joinedRows says again what a sign makes of two lists of n entries.
func joinedRows(sign byte, a []int, b []int) []int {
	switch sign {
	case '+':
		return pairwise(a, b, func(x int, y int) int { return x + y })
	case '|':
		return pairwise(a, b, func(x int, y int) int { return max(x, y) })
	}
	return mergedOf(a, b)[:len(a)]
}

// termRow says again what row of n entries a term tells, byte by byte: a bracket that closes joins both rows ahead of it.
func termRow(s string, n int) []int {
	var rows [][]int
	var signs []byte
	step := 1
	for _, c := range []byte(s) {
		switch c {
		case '(':
		case '+', '|', '&':
			signs = append(signs, c)
		case '-':
			step = -1
		case 'x':
			rows = append(rows, counted(n, 0, step))
			step = 1
		case 'v':
			rows = append(rows, squares()[:n])
		case ')':
			left, right, sign := rows[len(rows)-2], rows[len(rows)-1], signs[len(signs)-1]
			rows = append(rows[:len(rows)-2], joinedRows(sign, left, right))
			signs = signs[:len(signs)-1]
		default:
			rows = append(rows, filled(n, int(c-'0')))
		}
	}
	return rows[0]
}

// takenApart returns both terms and the sign of a term in brackets.
func takenApart(s string) (string, byte, string) {
	open := 0
	for i := 1; i < len(s); i++ {
		switch s[i] {
		case '(':
			open++
		case ')':
			open--
		case '+', '|', '&':
			if open == 0 {
				return s[1:i], s[i], s[i+1 : len(s)-1]
			}
		}
	}
	return "", 0, ""
}

// ruled returns what one rule makes of a term in brackets as a whole, and whether there is such a rule.
func ruled(s string) (string, bool) {
	left, sign, right := takenApart(s)
	switch {
	case sign == '+' && left == "0":
		return right, true
	case sign == '+' && right == "0":
		return left, true
	case sign == '|' && left == right:
		return left, true
	}
	if digits := "0123456789"; len(left) == 1 && len(right) == 1 {
		a, b := strings.Index(digits, left), strings.Index(digits, right)
		sum := a + b
		if sign == '|' {
			sum = max(a, b)
		}
		if a >= 0 && b >= 0 && sum <= 9 {
			return digits[sum : sum+1], true
		}
	}
	return "", false
}

// closing returns the place behind the bracket that closes the one at a place of a term.
func closing(s string, from int) int {
	open := 0
	for i := from; i < len(s); i++ {
		switch s[i] {
		case '(':
			open++
		case ')':
			open--
		}
		if open == 0 {
			return i + 1
		}
	}
	return len(s)
}

// afterRule returns what a term becomes by using one rule, the first one from the outside on, and whether there is one.
func afterRule(s string) (string, bool) {
	for i := range len(s) {
		if s[i] != '(' {
			continue
		}
		end := closing(s, i)
		if short, ok := ruled(s[i:end]); ok {
			return s[:i] + short + s[end:], true
		}
	}
	return s, false
}

// tidyOf says again what the tidy term is: rules are used, from the outside on, as long as there is one.
// In whatever order they are used, they lead to the same term: each rule that is passed by can be used afterwards, in each copy of its term.
func tidyOf(s string) string {
	for {
		next, ok := afterRule(s)
		if !ok {
			return s
		}
		s = next
	}
}

// shortTerms returns all terms without brackets.
func shortTerms() []string {
	return append(strings.Split("0123456789xv", ""), "-x")
}

func signs() []string {
	return []string{"+", "|", "&"}
}

// joinedTerms returns all terms that come by joining one of some terms and one of others.
func joinedTerms(lefts []string, rights []string) []string {
	var all []string
	for _, left := range lefts {
		for _, right := range rights {
			for _, sign := range signs() {
				all = append(all, "("+left+sign+right+")")
			}
		}
	}
	return all
}

// drawnTerm returns a term in which as many short terms stand as told, of those to be drawn from.
func drawnTerm(draw func(n int) int, count int, from []string) string {
	if count == 1 {
		return from[draw(len(from))]
	}
	ahead := 1 + draw(count-1)
	left := drawnTerm(draw, ahead, from)
	sign := signs()[draw(3)]
	return "(" + left + sign + drawnTerm(draw, count-ahead, from) + ")"
}

// drawnTerms returns texts that are terms but for their length, which may be more than termMax bytes.
func drawnTerms(times int) []string {
	var all []string
	draw := draws(9)
	for _, from := range [][]string{shortTerms(), {"0", "x", "v", "-x"}, {"0", "1", "2"}, {"0", "0", "x"}, {"-x", "-x", "v"}, {"9", "v", "x", "4"}} {
		for count := 1; count <= 11; count++ {
			for range times {
				all = append(all, drawnTerm(draw, count, from))
			}
		}
	}
	return all
}

// nested returns a term with a sign that has a short term again and again, on the left side, on the right side, or on both sides in turn.
func nested(sign string, short string, count int) []string {
	left, right, both := short, short, short
	for i := range count - 1 {
		left = "(" + left + sign + short + ")"
		right = "(" + short + sign + right + ")"
		if i%2 == 0 {
			both = "(" + both + sign + short + ")"
		} else {
			both = "(" + short + sign + both + ")"
		}
	}
	return []string{left, right, both}
}

// longTerms returns terms of many bytes, up to termMax, those that tell the greatest and the least entries among them.
func longTerms() []string {
	var all []string
	for _, sign := range signs() {
		for _, short := range []string{"v", "9", "0", "x"} {
			all = append(all, nested(sign, short, 10)...)
		}
		all = append(all, nested(sign, "-x", 8)...)
	}
	return append(all, fullTerms()...)
}

// fullTerms returns terms of just termMax bytes.
func fullTerms() []string {
	return []string{
		"((((v+v)&(v+v))&((v+v)|-x))&((-x+v)|-x))",
		"(-x+(-x+(-x+(v+(v+(v+(v+(v+(v+v)))))))))",
		"(((((((((v&v)&v)&v)&v)&v)&v)&-x)&-x)&-x)",
		"((((((((-x&-x)|-x)+-x)&-x)|-x)+-x)&v)|9)",
		"(((0+1)+(0|0))+((-x&(-x&-x))|(0+(x|5))))",
	}
}

// fewTerms returns terms to be taken in pairs.
func fewTerms() []string {
	return slices.Concat(shortTerms(), []string{
		"(x|2)", "(2|x)", "((x+1)&v)", "(v&(x+1))", "(x+-x)", "(v+-x)", "(-x|-x)", "(-x&3)", "(x&v)", "(v&v)", "(x|-x)", "(v|x)", "(0+x)", "(x+0)", "((1+2)|3)",
		"((x+x)|4)", "(x|4)", "((v+v)&(x+3))", "((v|5)&(v|5))", "(9+9)", "(-x+9)", "((x+x)+x)", "(v|(x+6))", "((-x+-x)|(x+-x))", "(-x&-x)", "(-x+-x)", "(v+3)", "(3+v)",
	})
}

// manyTerms returns terms to be taken one by one.
func manyTerms() []string {
	few := []string{"0", "1", "9", "x", "v", "-x"}
	pairs := joinedTerms(few, few)
	all := slices.Concat(shortTerms(), joinedTerms(shortTerms(), shortTerms()), joinedTerms(pairs, few[:5]), joinedTerms(few[3:], pairs), fewTerms(), longTerms())
	for _, s := range drawnTerms(60) {
		if len(s) <= termMax {
			all = append(all, s)
		}
	}
	return all
}

// longTexts returns texts that are no terms just because of their length.
func longTexts() []string {
	texts := []string{
		"(((((((((v&v)&v)&v)&-x)&v)&v)&-x)&-x)&-x)",
		"(0+(1|(2&(3+(4|(5&(6+(7|(8&(9+x))))))))))",
		strings.Repeat("(", 1000) + "x" + strings.Repeat("+x)", 1000),
		strings.Repeat("(x+", 1000) + "x" + strings.Repeat(")", 1000),
		strings.Repeat("(x&", 1<<16) + "x" + strings.Repeat(")", 1<<16),
	}
	for _, s := range drawnTerms(60) {
		if len(s) > termMax {
			texts = append(texts, s)
		}
	}
	return texts
}

// noTerms returns texts that are no terms.
func noTerms() []string {
	texts := []string{
		"", " ", "-", "+", "|", "&", "(", ")", "()", "(x)", "((x))", "(x+)", "(+x)", "(+)", "(|)", "x+x", "x+", "+x", "|x", "(x+x", "x+x)", "(x+x))", "((x+x)", "((x+x))", "(x+x)x", "x(x+x)",
		"(x+x+x)", "(x+x|x)", "(x+(x|x)&x)", "(x x)", "(xx)", "(x,x)", "(x++x)", "(x||x)", "(x&&x)", "(x+&x)", "(x-x)", "(x*x)", "(x/x)", "(x^x)", "(x:x)", "(x\x00x)",
		"--x", "-(x)", "-(x+x)", "-v", "-0", "-1", "-9", "- x", "-xx", "x-", "x-x", "-x-x", "(-x--x)", "(-v+x)", "(x+-v)", "(x+-1)", "(--x+x)", "(x+--x)", "-", "(-+x)", "(x+-)",
		" x", "x ", "x\n", "\nx", "x\t", "( x+x)", "(x +x)", "(x+ x)", "(x+x )", "(x+x) ", " (x+x)", "00", "01", "10", "12", "99", "(10+x)", "(x+10)", "x1", "1x", "xv", "vv", "v0", "2v",
		"X", "V", "-X", "y", "a", "t", "n", "u", "w", "xy", "/", ":", "#", "(#+#)", "\x00", "x\x00", "\x00x", "\xff", "\xf8", "\xb0", "(x\xabx)", "\u0660", "\u00b2", "\uff10", "\u00d7", "\u2212x", "x\u0301", "\uff58", "(x\uff0bx)", "[x+x]", "{x+x}", "<x+x>",
		"(((((((((x)))))))))", "(x+(x|(x&(x+(x|(x&x)))))", "(x+(x|(x&(x+(x|(x&x)))))))", "((((((x+x)+x)+x)+x)+x)", ")x+x(", ")(", "(x+x)(x+x)", "(x+x)+(x+x)", "(x+x)+x",
		strings.Repeat(" ", 40), strings.Repeat("x", 40), strings.Repeat("(", 40), strings.Repeat(")", 40), strings.Repeat("(", 41), strings.Repeat("-", 39) + "x", strings.Repeat("(", 1<<16), strings.Repeat("x", 1<<16),
		"x" + strings.Repeat(" ", 39), strings.Repeat(" ", 39) + "x", "x" + strings.Repeat(" ", 40), "x" + strings.Repeat(")", 40), strings.Repeat("0", 39) + "x",
	}
	for _, s := range fullTerms() {
		texts = append(texts, s+" ", " "+s, s+"\n", s+"\x00", s+")", "("+s, s+s, s[1:], s[:len(s)-1], s[:20], s[20:])
	}
	return append(texts, longTexts()...)
}

// changedTexts returns all texts that come by taking a byte off a text, putting one of those told to it, or changing one to such.
func changedTexts(s string, of string) []string {
	var all []string
	others := strings.Split(of, "")
	for i := range len(s) {
		all = append(all, s[:i]+s[i+1:])
		for _, c := range others {
			all = append(all, s[:i]+c+s[i:], s[:i]+c+s[i+1:])
		}
	}
	for _, c := range others {
		all = append(all, s+c)
	}
	return all
}

// textsOf returns all texts of at most so many bytes, of those told.
func textsOf(most int, of string) []string {
	all, last := []string{""}, []string{""}
	for range most {
		var next []string
		for _, s := range last {
			for i := range len(of) {
				next = append(next, s+of[i:i+1])
			}
		}
		all = append(all, next...)
		last = next
	}
	return all
}

// noTermCounts returns numbers of entries that no row that a term tells has.
func noTermCounts() []int {
	numbers := []int{0, -1, -2, -6, 7, 8, 11, rowMax, rowMax + 1, 1<<32 + 1, 1<<32 + 6, -1<<32 + 3, math.MinInt + 2, math.MinInt + 6, math.MaxInt - 5}
	return append(numbers, outside()...)
}

// noTermPlaces returns numbers that are no places of a row that a term tells.
func noTermPlaces() []int {
	numbers := []int{-1, -2, -5, -6, 6, 7, 10, rowMax - 1, rowMax, 1 << 32, 1<<32 + 5, -1 << 32, -1<<32 + 3, math.MinInt + 5, math.MaxInt - 6}
	return append(numbers, outside()...)
}

// wantText checks a text against the one that is told.
func wantText(t *testing.T, got string, ok bool, want string, wantOk bool, call string, args ...any) {
	t.Helper()
	if got != want || ok != wantOk {
		t.Fatalf("%s of %q returned %q, %t; want %q, %t", call, args, got, ok, want, wantOk)
	}
}
