package shuffle

import (
	"maps"
	"slices"

	"galloon/api"
)

// Permutes returns the lexicographically smallest two points at which the function of the polynomial has equal values,
// and -1, -1 if it is a permutation.
func Permutes(m int, polynomial []int) (int, int, api.Errno) {
	if !isPolynomial(m, polynomial) {
		return 0, 0, api.ErrArg
	}
	x, y := firstEqual(polynomialTable(m, polynomial).list(m))
	return x, y, api.OK
}

// firstEqual returns the lexicographically smallest two positions of equal numbers, and -1, -1 if there are none.
func firstEqual(list []int) (int, int) {
	for x, value := range list {
		if after := slices.Index(list[x+1:], value); after >= 0 {
			return x, x + 1 + after
		}
	}
	return -1, -1
}

// isPermutation reports whether m is a modulus and the list a permutation for it.
func isPermutation(m int, list []int) bool {
	if !isFunction(m, list) {
		return false
	}
	x, _ := firstEqual(list)
	return x < 0
}

// Inverse returns the function that undoes a permutation.
func Inverse(m int, function []int) ([]int, api.Errno) {
	if !isPermutation(m, function) {
		return nil, api.ErrArg
	}
	var inverse table
	for x, value := range function {
		inverse[value] = x
	}
	return inverse.list(m), api.OK
}

// Order returns how often a permutation must be applied to give every point back.
func Order(m int, function []int) (int, api.Errno) {
	if !isPermutation(m, function) {
		return 0, api.ErrArg
	}
	order := 1
	for length := range countCycles(function) {
		order *= length / divisor(order, length)
	}
	return order, api.OK
}

// Cycles returns the lengths of the cycles of a permutation, in ascending order.
func Cycles(m int, function []int) ([]int, api.Errno) {
	if !isPermutation(m, function) {
		return nil, api.ErrArg
	}
	counts := countCycles(function)
	var lengths []int
	for _, length := range slices.Sorted(maps.Keys(counts)) {
		for range counts[length] {
			lengths = append(lengths, length)
		}
	}
	return lengths, api.OK
}

// countCycles returns, for each length, how many cycles of a permutation have it.
func countCycles(permutation []int) map[int]int {
	counts := map[int]int{}
	var seen [api.MaxModulus]bool
	for begin := range len(permutation) {
		length := 0
		for x := begin; !seen[x]; x = permutation[x] {
			seen[x] = true
			length++
		}
		if length > 0 {
			counts[length]++
		}
	}
	return counts
}

// After returns the function that has at x the value of g at the value of f at x.
func After(m int, f, g []int) ([]int, api.Errno) {
	if !isFunction(m, f) || !isFunction(m, g) {
		return nil, api.ErrArg
	}
	return tabulated(m, func(x int) int { return g[f[x]] }).list(m), api.OK
}
