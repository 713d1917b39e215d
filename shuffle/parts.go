package shuffle

import (
	"slices"

	"galloon/api"
)

// Split returns the prime powers whose product is m, as pairs of the prime and its exponent,
// and the functions of the polynomial for them.
func Split(m int, polynomial []int) ([][2]int, [][]int, api.Errno) {
	if !isPolynomial(m, polynomial) {
		return nil, nil, api.ErrArg
	}
	parts := partsOf(m)
	var functions [][]int
	for _, part := range parts {
		q := powerOf(part)
		functions = append(functions, polynomialTable(q, polynomial).list(q))
	}
	return parts, functions, api.OK
}

// partsOf returns the prime powers of a number from 2 on, in ascending order of the primes.
func partsOf(n int) [][2]int {
	var parts [][2]int
	for prime := 2; n > 1; prime++ {
		exponent := 0
		for n%prime == 0 {
			n /= prime
			exponent++
		}
		// Only primes are left to divide n: the smaller ones are used up.
		if exponent > 0 {
			parts = append(parts, [2]int{prime, exponent})
		}
	}
	return parts
}

// powerOf returns the prime power that a pair stands for.
func powerOf(part [2]int) int {
	power := 1
	for range part[1] {
		power *= part[0]
	}
	return power
}

// Joined returns the smallest number that leaves these remainders modulo the prime powers.
func Joined(parts [][2]int, remainders []int) (int, api.Errno) {
	m, ok := modulusOf(parts)
	if !ok {
		return 0, api.ErrArg
	}
	for n := range m {
		if slices.Equal(remaindersOf(n, parts), remainders) {
			return n, api.OK
		}
	}
	// All remainders that are less than their prime powers are left by a number less than m (the Chinese remainder
	// theorem): this is no list of such remainders.
	return 0, api.ErrArg
}

// modulusOf returns the modulus that has these parts, and false if there is none. No product of the parts is made,
// which might leave the range of int.
func modulusOf(parts [][2]int) (int, bool) {
	for m := range api.MaxModulus + 1 {
		if isModulus(m) && slices.Equal(partsOf(m), parts) {
			return m, true
		}
	}
	return 0, false
}

// remaindersOf returns what n leaves modulo each of the prime powers.
func remaindersOf(n int, parts [][2]int) []int {
	var remainders []int
	for _, part := range parts {
		remainders = append(remainders, n%powerOf(part))
	}
	return remainders
}
