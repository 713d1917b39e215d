package hem

import (
	"cmp"

	"galloon/api"
)

// Nothing here leaves the range of int: a value of a seam has a Den that divides 60 (for the heights), 12 to the power
// of 3 (for the time) and six differences of knots, which is less than 2^43, and its absolute value is at most 1000.

// whole returns a whole number as a fraction.
func whole(n int) api.Frac {
	return api.Frac{Num: n, Den: 1}
}

// divisor returns the greatest common divisor of two numbers, at least one of which is not 0.
func divisor(a, b int) int {
	for b != 0 {
		a, b = b, a%b
	}
	return max(a, -a)
}

func isLowest(f api.Frac) bool {
	return divisor(f.Num, f.Den) == 1
}

// lowest returns the quotient of a number and one from 1 on.
func lowest(num, den int) api.Frac {
	common := divisor(num, den)
	return api.Frac{Num: num / common, Den: den / common}
}

// compare compares two fractions by their values.
func compare(f, g api.Frac) int {
	return cmp.Compare(f.Num*g.Den, g.Num*f.Den)
}

func isLess(f, g api.Frac) bool {
	return compare(f, g) < 0
}

func plus(f, g api.Frac) api.Frac {
	common := divisor(f.Den, g.Den)
	return lowest(f.Num*(g.Den/common)+g.Num*(f.Den/common), f.Den/common*g.Den)
}

func minus(f, g api.Frac) api.Frac {
	return plus(f, api.Frac{Num: -g.Num, Den: g.Den})
}

func product(f, g api.Frac) api.Frac {
	return lowest(f.Num*g.Num, f.Den*g.Den)
}

// quotient divides a fraction by a number from 1 on.
func quotient(f api.Frac, n int) api.Frac {
	return lowest(f.Num, f.Den*n)
}

// sum adds up what belongs to the positions and elements of a list.
func sum[T any](list []T, summand func(i int, item T) api.Frac) api.Frac {
	total := whole(0)
	for i, item := range list {
		total = plus(total, summand(i, item))
	}
	return total
}

// way returns which part of the way from one knot to a greater one is done at t.
func way(t api.Frac, from, to int) api.Frac {
	return quotient(minus(t, whole(from)), to-from)
}

// mixed returns (1 - q) f + q g.
func mixed(f, g, q api.Frac) api.Frac {
	return plus(product(minus(whole(1), q), f), product(q, g))
}
