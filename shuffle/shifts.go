package shuffle

import "galloon/api"

// Same returns the smallest point at which the functions of two polynomials differ, and -1 if there is none.
func Same(m int, p, q []int) (int, api.Errno) {
	if !isPolynomial(m, p) || !isPolynomial(m, q) {
		return 0, api.ErrArg
	}
	f, g := polynomialTable(m, p), polynomialTable(m, q)
	for x := range m {
		if f[x] != g[x] {
			return x, api.OK
		}
	}
	return -1, api.OK
}

// Shifts returns all a from 0 to m - 1, in ascending order, for which the function of the polynomial at x + a
// is that at x, plus a, for all x.
func Shifts(m int, polynomial []int) ([]int, api.Errno) {
	if !isPolynomial(m, polynomial) {
		return nil, api.ErrArg
	}
	remainder := modulo(m)
	f := polynomialTable(m, polynomial)
	var shifts []int
	for a := range m {
		later := tabulated(m, func(x int) int { return f[remainder(x+a)] })
		higher := tabulated(m, func(x int) int { return remainder(f[x] + a) })
		if later == higher {
			shifts = append(shifts, a)
		}
	}
	return shifts, api.OK
}
