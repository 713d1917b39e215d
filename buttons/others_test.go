package buttons_test

import (
	"slices"
	"testing"

	"galloon/api"
	"galloon/buttons"
)

// smallestAlone returns the smallest total of all ways to put the other buttons into different holes:
// each one leaves just one hole for this button, at no cost.
func smallestAlone(costs [][]int, button int) int {
	free := slices.Clone(costs)
	free[button] = make([]int, len(costs))
	return totalOf(free, ordered(free)[0])
}

func greedyOf(costs [][]int) []int {
	assignment := slices.Repeat([]int{-1}, len(costs))
	for range costs {
		button, hole := -1, -1
		for i, row := range costs {
			for j, cost := range row {
				free := assignment[i] < 0 && !slices.Contains(assignment, j)
				if free && (button < 0 || cost < costs[button][hole]) {
					button, hole = i, j
				}
			}
		}
		assignment[button] = hole
	}
	return assignment
}

// P2.5 for small costs, and for larger ones.
func TestPaymentsByDefinition(t *testing.T) {
	for _, costs := range slices.Concat(smallCosts(), allCosts(3, -1, 0, 2), largerCosts(6), largerCosts(7)[180:190]) {
		first := ordered(costs)[0]
		var want []int
		for i, j := range first {
			want = append(want, totalOf(costs, first)-costs[i][j]-smallestAlone(costs, i))
		}
		if payments, e := buttons.Payments(costs); e != api.OK || !slices.Equal(payments, want) {
			t.Fatalf("Payments(%v) = %v, %d, want %v", costs, payments, e, want)
		}
	}
}

func TestGreedyByDefinition(t *testing.T) {
	for _, costs := range slices.Concat(smallCosts(), allCosts(3, -1, 0, 2), largerCosts(7)) {
		want := greedyOf(costs)
		if l, e := buttons.Greedy(costs); e != api.OK || !slices.Equal(l, want) {
			t.Fatalf("Greedy(%v) = %v, %d, want %v", costs, l, e, want)
		}
	}
}

// P2.5: one button pays nothing; Greedy may be dear; equal costs go by buttons, then by holes.
func TestEdgesOfOthers(t *testing.T) {
	for _, c := range []struct {
		costs            [][]int
		payments, greedy []int
	}{
		{[][]int{{7}}, []int{0}, []int{0}},
		{[][]int{{-1000}}, []int{0}, []int{0}},
		{[][]int{{1, 2}, {3, 5}}, []int{0, 1}, []int{0, 1}},
		{[][]int{{5, 1}, {9, 1}}, []int{0, 4}, []int{1, 0}},
		{[][]int{{9, 1}, {1, 0}}, []int{1, 0}, []int{0, 1}},
		{[][]int{{-1000, -1000}, {-1000, 1000}}, []int{0, 0}, []int{0, 1}},
		{[][]int{{2, 2}, {2, 2}}, []int{0, 0}, []int{0, 1}},
		{[][]int{{2, 1}, {1, 1}}, []int{0, 0}, []int{1, 0}},
		{[][]int{{3, 3, 3}, {2, 1, 1}, {1, 1, 1}}, []int{0, 0, 0}, []int{2, 1, 0}},
	} {
		if l, e := buttons.Payments(c.costs); e != api.OK || !slices.Equal(l, c.payments) {
			t.Errorf("Payments(%v) = %v, %d, want %v", c.costs, l, e, c.payments)
		}
		if l, e := buttons.Greedy(c.costs); e != api.OK || !slices.Equal(l, c.greedy) {
			t.Errorf("Greedy(%v) = %v, %d, want %v", c.costs, l, e, c.greedy)
		}
	}
}
