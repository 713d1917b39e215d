package yard

import (
	"slices"

	"galloon/api"
)

// maxQuotients is the greatest number of quotients that are folded.
const maxQuotients = 40

// Quotients returns the quotients of f.
func Quotients(f api.Frac) ([]int, api.Errno) {
	if !isValid(f) {
		return nil, api.ErrArg
	}
	var quotients []int
	for a, b := f.Den, f.Num; b != 0; a, b = b, a%b {
		quotients = append(quotients, a/b)
	}
	return quotients, api.OK
}

// Fold returns the fraction with these quotients.
func Fold(quotients []int) (api.Frac, api.Errno) {
	if !areQuotients(quotients) {
		return api.Frac{}, api.ErrArg
	}
	f := api.Frac{Num: 0, Den: 1}
	for _, quotient := range slices.Backward(quotients) {
		f = api.Frac{Num: f.Den, Den: quotient*f.Den + f.Num}
		// The Den never shrinks: many quotients may lead out of the range of int.
		if f.Den > api.MaxDen {
			return api.Frac{}, api.ErrFull
		}
	}
	return f, api.OK
}

func areQuotients(list []int) bool {
	if len(list) > maxQuotients {
		return false
	}
	for _, quotient := range list {
		if quotient < 1 || quotient > api.MaxDen {
			return false
		}
	}
	return len(list) < 2 || list[len(list)-1] != 1
}
