package buttons

import (
	"cmp"
	"slices"

	"galloon/api"
)

// Payments returns for each button by how much the others could be cheaper without it:
// what they cost in the first assignment, minus their smallest total if they are alone.
func Payments(costs [][]int) ([]int, api.Errno) {
	if !isCosts(costs) {
		return nil, api.ErrArg
	}
	first := firstOf(costs)
	var payments []int
	for button, row := range costs {
		alone := newSearch(without(costs, button)).first(state{})
		payments = append(payments, first.total-row[first.holes[button]]-alone.total)
	}
	return payments, api.OK
}

// Greedy returns the assignment that arises by going through all pairs in ascending order of their costs,
// then of the buttons, then of the holes, and taking each one whose button and hole are not taken yet.
func Greedy(costs [][]int) ([]int, api.Errno) {
	if !isCosts(costs) {
		return nil, api.ErrArg
	}
	var assignment way
	var buttonTaken, holeTaken [api.MaxButtons]bool
	for _, p := range pairsByCost(costs) {
		if !buttonTaken[p.button] && !holeTaken[p.hole] {
			buttonTaken[p.button], holeTaken[p.hole] = true, true
			assignment.holes[p.button] = p.hole
		}
	}
	return assignment.list(len(costs)), api.OK
}

// pairsByCost returns all pairs in ascending order of their costs, and pairs with the same cost as pairs visits them.
func pairsByCost(costs [][]int) []pair {
	return slices.SortedStableFunc(pairs(len(costs)), func(a, b pair) int {
		return cmp.Compare(costs[a.button][a.hole], costs[b.button][b.hole])
	})
}
