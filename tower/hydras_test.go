package tower_test

import (
	"math"
	"slices"
	"strings"
	"testing"

	"galloon/api"
	"galloon/tower"
)

// The helpers of this file read a hydra as a string, and build no tree.

// pairEnd returns the position after the pair that begins at a position, or -1 if it does not end.
func pairEnd(text string, begin int) int {
	depth := 0
	for i := begin; i < len(text); i++ {
		switch text[i] {
		case '(':
			depth++
		case ')':
			depth--
		default:
			return -1
		}
		if depth == 0 {
			return i + 1
		}
	}
	return -1
}

// isHydra tells whether a text is a hydra.
func isHydra(text string) bool {
	return len(text) > 0 && len(text) <= 400 && text[0] == '(' && pairEnd(text, 0) == len(text)
}

// headsOf returns the positions at which heads begin.
func headsOf(hydra string) []int {
	var list []int
	for i := 1; i < len(hydra); i++ {
		if strings.HasPrefix(hydra[i:], "()") {
			list = append(list, i)
		}
	}
	return list
}

// chopOf returns the hydra after chopping the head that begins at a position.
func chopOf(hydra string, at, n int) string {
	parent, depth := at, 1
	for depth > 0 {
		parent--
		if hydra[parent] == ')' {
			depth++
		} else {
			depth--
		}
	}
	chopped := hydra[:at] + hydra[at+2:]
	if parent == 0 {
		return chopped
	}
	end := pairEnd(chopped, parent)
	return chopped[:end] + strings.Repeat(chopped[parent:end], n) + chopped[end:]
}

// measureOf returns the ordinal of a hydra.
func measureOf(hydra string) ord {
	var blend ord
	for i := 1; i < len(hydra)-1; i = pairEnd(hydra, i) {
		blend = blendOf(blend, ord{{measureOf(hydra[i:pairEnd(hydra, i)]), 1}})
	}
	return blend
}

// hydras returns all hydras of a size.
func hydras(size int) []string {
	lists := []string{""}
	for range 2 * (size - 1) {
		var longer []string
		for _, before := range lists {
			open := strings.Count(before, "(") - strings.Count(before, ")")
			if strings.Count(before, "(") < size-1 {
				longer = append(longer, before+"(")
			}
			if open > 0 {
				longer = append(longer, before+")")
			}
		}
		lists = longer
	}
	for i, inner := range lists {
		lists[i] = "(" + inner + ")"
	}
	return lists
}

// deep returns the hydra of a size each of whose nodes has at most one child.
func deep(size int) string {
	return strings.Repeat("(", size) + strings.Repeat(")", size)
}

// flat returns the hydra of a size with heads only.
func flat(size int) string {
	return "(" + strings.Repeat("()", size-1) + ")"
}

// largeHydras returns hydras at the limits, and others of several forms.
func largeHydras() []string {
	list := []string{deep(200), flat(200), deep(100), flat(100), "(" + deep(60) + deep(60) + ")", "(" + flat(50) + flat(50) + flat(99) + ")", "(" + deep(61) + ")"}
	list = append(list, "("+strings.Repeat("(())", 99)+")", "("+strings.Repeat("(()())", 66)+")", "(()"+strings.Repeat("((()))", 60)+"())")
	for size := 2; size < 100; size += 7 {
		list = append(list, "("+deep(size)+flat(size)+")", "("+flat(size)+"()"+strings.Repeat("(", size)+"()()"+strings.Repeat(")", size)+")")
	}
	return list
}

// smallHydras returns all hydras of up to 7 pairs.
func smallHydras() []string {
	var list []string
	for size := 1; size <= 7; size++ {
		list = append(list, hydras(size)...)
	}
	return list
}

// noHydras returns texts that are no hydras.
func noHydras() []string {
	return []string{
		"", " ", "(", ")", ")(", "(()", "())", "()()", "()(", "())(", "(()))", "(())()", "()(())", "((())", "(a)", "a", "( )", " ()", "() ", "()\n", "(())\x00", "[]", "([])", "(()[])", "（）", "\x00",
		"0", one, w, deep(201), flat(201), deep(1000), flat(1000), "(" + deep(100) + flat(100) + ")", deep(1000000), flat(1000000),
		strings.Repeat("(", 1000000), strings.Repeat(")", 1000000), strings.Repeat("()", 1000000), strings.Repeat("(", 200), strings.Repeat("(", 200) + strings.Repeat(")", 199),
	}
}

// P5.4: Heads and Measure, for all hydras.
func TestHydrasByDefinition(t *testing.T) {
	for _, hydra := range slices.Concat(smallHydras(), largeHydras()) {
		if n, e := tower.Heads(hydra); n != len(headsOf(hydra)) || e != api.OK {
			t.Fatalf("Heads(%s) = %d, %d", hydra, n, e)
		}
		s, e := tower.Measure(hydra)
		if want := measureOf(hydra); isFull(want) {
			wantText(t, "Measure("+hydra+")", s, e, "", api.ErrFull)
		} else {
			wantText(t, "Measure("+hydra+")", s, e, want.String(), api.OK)
		}
	}
}

// P5.4: ordinals of up to 60 parts are not full, and those of 61 are; equal children are united.
func TestEdgesOfMeasure(t *testing.T) {
	for _, c := range []struct {
		hydra, want string
		errno       api.Errno
	}{
		{"()", "0", api.OK}, {"(())", one, api.OK}, {"(()())", two, api.OK}, {"((()))", w, api.OK}, {"(()(()))", w + "+" + one, api.OK}, {"((())())", w + "+" + one, api.OK},
		{"((())(()))", "w^(w^(0)*1)*2", api.OK}, {"((())()(()))", "w^(w^(0)*1)*2+" + one, api.OK}, {"((()()))", "w^(w^(0)*2)*1", api.OK}, {"(((())()))", "w^(" + w + "+" + one + ")*1", api.OK},
		{"(((())())(()(())))", "w^(" + w + "+" + one + ")*2", api.OK}, {flat(200), "w^(0)*199", api.OK}, {"(" + strings.Repeat("(())", 99) + ")", "w^(w^(0)*1)*99", api.OK},
		{deep(61), nested(60).String(), api.OK}, {deep(62), "", api.ErrFull}, {deep(200), "", api.ErrFull},
		{"(" + deep(60) + "()())", "", api.ErrFull}, {"(" + deep(59) + "()())", ord{{nested(58), 1}, {nil, 2}}.String(), api.OK},
		{"(" + deep(61) + deep(61) + ")", "", api.ErrFull}, {"(" + deep(60) + deep(60) + deep(60) + ")", ord{{nested(59), 3}}.String(), api.OK},
	} {
		s, e := tower.Measure(c.hydra)
		wantText(t, "Measure("+c.hydra+")", s, e, c.want, c.errno)
	}
}

// P5.4 and P5.5: Chop, for all heads; what is chopped has a smaller measure.
func TestChopByDefinition(t *testing.T) {
	full := 0
	for _, hydra := range slices.Concat(smallHydras(), largeHydras()) {
		for head, at := range headsOf(hydra) {
			for _, n := range []int{0, 1, 2, 3, 7, 1000} {
				s, e := tower.Chop(hydra, head, n)
				want := chopOf(hydra, at, n)
				if len(want) > 400 {
					full++
					wantText(t, "Chop("+hydra+")", s, e, "", api.ErrFull)
					continue
				}
				wantText(t, "Chop("+hydra+")", s, e, want, api.OK)
				before, x := tower.Measure(hydra)
				after, y := tower.Measure(s)
				if x != api.OK || y != api.OK {
					continue
				}
				if c, e := tower.Compare(after, before); c != -1 || e != api.OK {
					t.Fatalf("the measure of %s is %s, and after chopping %s", hydra, before, after)
				}
			}
		}
	}
	if full < 100 {
		t.Errorf("%d hydras only are full", full)
	}
}

// P5.4: where copies come, which head is which, and the limits of the arguments and of the size.
func TestEdgesOfChop(t *testing.T) {
	for _, c := range []struct {
		hydra   string
		head, n int
		want    string
		errno   api.Errno
	}{
		{"(())", 0, 0, "()", api.OK}, {"(())", 0, 1000, "()", api.OK}, {"(()())", 1, 5, "(())", api.OK}, {"((()))", 0, 2, "(()()())", api.OK}, {"((()))", 0, 0, "(())", api.OK},
		{"((())())", 0, 1, "(()()())", api.OK}, {"((())())", 1, 1, "((()))", api.OK}, {"(()(()))", 0, 1, "((()))", api.OK}, {"(()(()))", 1, 1, "(()()())", api.OK},
		{"((()(())))", 0, 1, "(((()))((())))", api.OK}, {"((()(())))", 1, 1, "((()()()))", api.OK}, {"(((()())))", 0, 2, "(((())(())(())))", api.OK}, {"(((()()))())", 1, 1, "(((())(()))())", api.OK},
		{"((()())(()()))", 2, 1, "((()())(())(()))", api.OK},
		{"()", 0, 0, "", api.ErrArg}, {"()", 0, 5, "", api.ErrArg}, {"(())", 1, 0, "", api.ErrArg}, {"(())", -1, 0, "", api.ErrArg}, {"((())())", 2, 0, "", api.ErrArg},
		{"(())", math.MaxInt, 0, "", api.ErrArg}, {"(())", math.MinInt, 0, "", api.ErrArg}, {flat(200), 199, 0, "", api.ErrArg}, {flat(200), 198, 0, flat(199), api.OK},
		{"((()))", 0, 198, flat(200), api.OK}, {"((()))", 0, 199, "", api.ErrFull}, {"((()))", 0, 1000, "", api.ErrFull}, {deep(200), 0, 1, strings.Repeat("(", 198) + "()()" + strings.Repeat(")", 198), api.OK},
		{deep(200), 0, 2, "", api.ErrFull}, {"(" + flat(66) + ")", 64, 2, "(" + flat(65) + flat(65) + flat(65) + ")", api.OK}, {"(" + flat(68) + ")", 66, 2, "", api.ErrFull},
		{"(" + flat(67) + "())", 65, 2, "(" + flat(66) + flat(66) + flat(66) + "())", api.OK}, {"(" + flat(67) + "()())", 65, 2, "", api.ErrFull},
		{deep(200), 0, 1001, "", api.ErrArg}, {deep(200), 1, 1000, "", api.ErrArg},
	} {
		s, e := tower.Chop(c.hydra, c.head, c.n)
		wantText(t, "Chop("+c.hydra+")", s, e, c.want, c.errno)
	}
	for _, n := range noTimes() {
		for _, hydra := range []string{"()", "(())", "((()))", deep(200)} {
			s, e := tower.Chop(hydra, 0, n)
			wantText(t, "Chop("+hydra+")", s, e, "", api.ErrArg)
		}
	}
}

// endOf chops the last head with the number n, until there is none, or a limit is reached, or it takes too long.
func endOf(t *testing.T, hydra string, n int) string {
	t.Helper()
	before, _ := tower.Measure(hydra)
	for range 500 {
		if hydra == "()" {
			break
		}
		heads, _ := tower.Heads(hydra)
		next, e := tower.Chop(hydra, heads-1, n)
		after, x := tower.Measure(next)
		if e == api.ErrFull || x == api.ErrFull {
			return hydra
		}
		if c, y := tower.Compare(after, before); c != -1 || e != api.OK || x != api.OK || y != api.OK {
			t.Fatalf("%s is chopped to %s, with the measures %s and %s", hydra, next, before, after)
		}
		hydra, before = next, after
	}
	return hydra
}

// P5.5: a hydra that is chopped again and again ends as a root alone, and its measures descend strictly.
func TestHydrasEnd(t *testing.T) {
	ended := 0
	for _, hydra := range smallHydras() {
		for n := range 3 {
			if endOf(t, hydra, n) == "()" {
				ended++
			}
		}
	}
	if ended < 300 {
		t.Errorf("%d hydras only have ended", ended)
	}
}
