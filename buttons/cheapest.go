package buttons

import (
	"slices"

	"galloon/api"
)

// maxPrice is the greatest absolute value of a price.
const maxPrice = 1000000

// prices are those of the buttons, or those of the holes.
type prices [api.MaxButtons]int

// Best returns the first assignment in the order, and prices of the buttons and of the holes that prove it.
func Best(costs [][]int) ([]int, []int, []int, api.Errno) {
	if !isCosts(costs) {
		return nil, nil, nil, api.ErrArg
	}
	n := len(costs)
	first := firstOf(costs)
	u, v := provingPrices(costs, first)
	return first.list(n), slices.Clone(u[:n]), slices.Clone(v[:n]), api.OK
}

// provingPrices returns prices that prove a cheapest assignment.
func provingPrices(costs [][]int, cheapest way) (u, v prices) {
	// A button pays what its own hole leaves of the cost there; so all prices together are the total.
	// It must not pay more than another hole leaves of the cost there: this limits the price of that hole
	// by the price of its own. To lower a price to its limit may lower other limits, but never in a circle,
	// since holes exchanged along the circle would make the assignment cheaper:
	// as many rounds as there are holes are enough.
	for range costs {
		for p := range pairs(len(costs)) {
			row, own := costs[p.button], cheapest.holes[p.button]
			v[p.hole] = min(v[p.hole], v[own]+row[p.hole]-row[own])
		}
	}
	for button, row := range costs {
		own := cheapest.holes[button]
		u[button] = row[own] - v[own]
	}
	return u, v
}

// Check returns OK if the assignment is one, and u and v are prices that prove it.
func Check(costs [][]int, assignment, u, v []int) api.Errno {
	if !isCosts(costs) {
		return api.ErrArg
	}
	n := len(costs)
	if !isAssignment(assignment, n) || !arePrices(costs, u, v) || sum(u)+sum(v) != wayOf(costs, assignment).total {
		return api.ErrAnswer
	}
	return api.OK
}

func arePrices(costs [][]int, u, v []int) bool {
	n := len(costs)
	// The range comes before the sums, which might leave that of int.
	if len(u) != n || len(v) != n || !areWithin(u, maxPrice) || !areWithin(v, maxPrice) {
		return false
	}
	for p := range pairs(n) {
		if u[p.button]+v[p.hole] > costs[p.button][p.hole] {
			return false
		}
	}
	return true
}

func sum(numbers []int) int {
	total := 0
	for _, number := range numbers {
		total += number
	}
	return total
}

// Total returns the sum of the costs of an assignment.
func Total(costs [][]int, assignment []int) (int, api.Errno) {
	if !isCosts(costs) || !isAssignment(assignment, len(costs)) {
		return 0, api.ErrArg
	}
	return wayOf(costs, assignment).total, api.OK
}
