package draw

import (
	"slices"

	"galloon/api"
)

// Balance returns the shares of all states that one step leaves as they are.
func Balance(box api.Box) ([]api.Frac, api.Errno) {
	l, ok := newLots(box)
	if !ok {
		return nil, api.ErrArg
	}
	if len(l.finalClasses()) > 1 {
		return nil, api.ErrNone
	}
	rows := l.losses()
	var trees []int
	for state := range rows {
		// By the theorem on the trees of Markov chains, these determinants are in the proportion of the shares.
		trees = append(trees, determinant(without(rows, state, state)...))
	}
	return fractions(sum(trees), trees...), api.OK
}

// losses returns a row for each state: what one step takes from it, as positive numbers,
// and what it brings to the others, as negative ones. Each row adds up to 0.
func (l lots) losses() [][]int {
	var rows [][]int
	for state := range l.states {
		row := make([]int, l.states)
		row[state] = l.total(1)
		for to, count := range l.counts(single(state), 1) {
			row[to] -= count
		}
		rows = append(rows, row)
	}
	return rows
}

// determinant returns the determinant of a square. It expands by the first row, without any division:
// the absolute values in a row of losses add up to at most 2 * MaxMaps * MaxWeight, so that nothing on the way
// is greater than the sixth power of 72.
func determinant(rows ...[]int) int {
	if len(rows) == 0 {
		return 1
	}
	result, sign := 0, 1
	for column, number := range rows[0] {
		result += sign * number * determinant(without(rows, 0, column)...)
		sign = -sign
	}
	return result
}

// without returns what is left without one row and one column.
func without(rows [][]int, row, column int) [][]int {
	var left [][]int
	for _, other := range slices.Concat(rows[:row], rows[row+1:]) {
		left = append(left, slices.Concat(other[:column], other[column+1:]))
	}
	return left
}
