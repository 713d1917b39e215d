package buttons

import (
	"slices"

	"galloon/api"
)

// Item returns the assignment that has k assignments before it in the order.
func Item(costs [][]int, k int) ([]int, api.Errno) {
	if !isCosts(costs) {
		return nil, api.ErrArg
	}
	totals := sortedTotals(costs)
	if k < 0 || k >= len(totals) {
		return nil, api.ErrArg
	}
	// To sort the totals alone is faster: the assignments with one total are visited in their order.
	same := those(costs, func(w way) bool { return w.total == totals[k] })
	before, _ := slices.BinarySearch(totals, totals[k])
	return same[k-before].list(len(costs)), api.OK
}

func sortedTotals(costs [][]int) []int {
	var totals []int
	for w := range assignments(costs) {
		totals = append(totals, w.total)
	}
	slices.Sort(totals)
	return totals
}

// Index returns how many assignments come before the given one in the order.
func Index(costs [][]int, assignment []int) (int, api.Errno) {
	if !isCosts(costs) || !isAssignment(assignment, len(costs)) {
		return 0, api.ErrArg
	}
	given := wayOf(costs, assignment)
	return len(those(costs, func(w way) bool { return inOrder(w, given) < 0 })), api.OK
}

// Within returns the number of assignments whose total is at most most.
func Within(costs [][]int, most int) (int, api.Errno) {
	if !isCosts(costs) {
		return 0, api.ErrArg
	}
	return len(those(costs, func(w way) bool { return w.total <= most })), api.OK
}

// those returns the assignments that are wanted, in lexicographic order.
func those(costs [][]int, isWanted func(way) bool) []way {
	var list []way
	for w := range assignments(costs) {
		if isWanted(w) {
			list = append(list, w)
		}
	}
	return list
}
