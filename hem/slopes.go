package hem

import (
	"slices"

	"galloon/api"
)

// Slope returns the seam of the next lower degree whose values are the slope of the values.
func Slope(seam api.Seam) (api.Seam, api.Errno) {
	if !isSeam(seam) || seam.Degree == 0 {
		return api.Seam{}, api.ErrArg
	}
	knots := slices.Clone(seam.Knots[1 : len(seam.Knots)-1])
	var list []api.Frac
	for i := range len(seam.Heights) - 1 {
		slope := whole(0)
		// If these are equal, they are too many for the lower degree, and the result is no seam.
		if from, to := knots[i], knots[i+seam.Degree]; from < to {
			rise := minus(seam.Heights[i+1], seam.Heights[i])
			slope = quotient(product(whole(seam.Degree), rise), to-from)
		}
		list = append(list, slope)
	}
	return checked(api.Seam{Degree: seam.Degree - 1, Knots: knots, Heights: list})
}

// Area returns the sum of the heights, each times the width of its hat, divided by the degree plus 1.
func Area(seam api.Seam) (api.Frac, api.Errno) {
	if !isSeam(seam) {
		return api.Frac{}, api.ErrArg
	}
	total := sum(seam.Heights, func(i int, height api.Frac) api.Frac {
		width := seam.Knots[i+seam.Degree+1] - seam.Knots[i]
		return product(height, whole(width))
	})
	return quotient(total, seam.Degree+1), api.OK
}
