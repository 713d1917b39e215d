package shuffle

import "galloon/api"

// maxCount is the greatest number of polynomial functions that is returned.
const maxCount = 1 << 60

// Values returns the function of the polynomial.
func Values(m int, polynomial []int) ([]int, api.Errno) {
	if !isPolynomial(m, polynomial) {
		return nil, api.ErrArg
	}
	return polynomialTable(m, polynomial).list(m), api.OK
}

// Form returns the form of a polynomial function.
func Form(m int, function []int) ([]int, api.Errno) {
	if !isFunction(m, function) {
		return nil, api.ErrArg
	}
	limits := limitsOf(m)
	form := make([]int, len(limits))
	for i, limit := range limits {
		// The value at i depends on no later number of the form, as their products are 0 there:
		// this number makes it right, or none does.
		for formAt(m, form, i) != function[i] {
			form[i]++
			if form[i] == limit {
				return nil, api.ErrNone
			}
		}
	}
	if formTable(m, form) != tableOf(function) {
		return nil, api.ErrNone
	}
	return withoutLastZeros(form), api.OK
}

// Unform returns the function with this form.
func Unform(m int, form []int) ([]int, api.Errno) {
	if !isModulus(m) || !isForm(m, form) {
		return nil, api.ErrArg
	}
	return formTable(m, form).list(m), api.OK
}

func isForm(m int, list []int) bool {
	limits := limitsOf(m)
	if len(list) > len(limits) {
		return false
	}
	for i, number := range list {
		if number < 0 || number >= limits[i] {
			return false
		}
	}
	return len(list) == len(withoutLastZeros(list))
}

// withoutLastZeros returns the beginning of a list, up to the last number that is not 0.
func withoutLastZeros(list []int) []int {
	for len(list) > 0 && list[len(list)-1] == 0 {
		list = list[:len(list)-1]
	}
	return list
}

// formTable returns the function that the numbers of a form make.
func formTable(m int, form []int) table {
	return tabulated(m, func(x int) int { return formAt(m, form, x) })
}

func formAt(m int, form []int, x int) int {
	return nested(m, form, func(i int) int { return x - i })
}

// limitsOf returns what the numbers of a form are less than, as long as this is greater than 1:
// all numbers after these would be 0.
func limitsOf(m int) []int {
	remainder := modulo(m)
	var limits []int
	for product := 1; product != 0; product = remainder(product * len(limits)) {
		limits = append(limits, m/divisor(m, product))
	}
	return limits
}

// Degree returns the smallest number n for which m divides 1 2 ... n.
func Degree(m int) (int, api.Errno) {
	if !isModulus(m) {
		return 0, api.ErrArg
	}
	// From n on, the greatest common divisor of m and the product is m, and before it is not.
	return len(limitsOf(m)), api.OK
}

// Count returns the number of polynomial functions for m: that of their forms.
func Count(m int) (int, api.Errno) {
	if !isModulus(m) {
		return 0, api.ErrArg
	}
	count := 1
	for _, limit := range limitsOf(m) {
		if count > maxCount/limit {
			return 0, api.ErrFull
		}
		count *= limit
	}
	return count, api.OK
}
