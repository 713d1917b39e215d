package hem

import (
	"slices"

	"galloon/api"
)

// Means returns for each height the mean of the knots inside its hat.
func Means(seam api.Seam) ([]api.Frac, api.Errno) {
	if !isSeam(seam) {
		return nil, api.ErrArg
	}
	return means(seam.Degree, seam.Knots), api.OK
}

func means(degree int, knots []int) []api.Frac {
	var list []api.Frac
	for i := range heightCount(degree, knots) {
		inner := knots[i+1 : i+1+degree]
		if degree == 0 {
			inner = knots[i : i+2]
		}
		total := sum(inner, func(_, knot int) api.Frac { return whole(knot) })
		list = append(list, quotient(total, len(inner)))
	}
	return list
}

// Bounds returns the smallest and the greatest height.
func Bounds(seam api.Seam) (api.Frac, api.Frac, api.Errno) {
	if !isSeam(seam) {
		return api.Frac{}, api.Frac{}, api.ErrArg
	}
	return slices.MinFunc(seam.Heights, compare), slices.MaxFunc(seam.Heights, compare), api.OK
}

// Turns returns how often the sign changes in the list of the heights.
func Turns(seam api.Seam) (int, api.Errno) {
	if !isSeam(seam) {
		return 0, api.ErrArg
	}
	turns, before := 0, whole(0)
	for _, height := range seam.Heights {
		if height == whole(0) {
			continue
		}
		if height.Num*before.Num < 0 {
			turns++
		}
		before = height
	}
	return turns, api.OK
}

// Line returns the seam with these knots whose value at any time t is a t + b.
func Line(knots []int, degree int, a, b int) (api.Seam, api.Errno) {
	if !areKnots(degree, knots) || !isFactor(a) || !isFactor(b) || degree == 0 {
		return api.Seam{}, api.ErrArg
	}
	var list []api.Frac
	for _, mean := range means(degree, knots) {
		list = append(list, plus(product(whole(a), mean), whole(b)))
	}
	return checked(api.Seam{Degree: degree, Knots: slices.Clone(knots), Heights: list})
}

func isFactor(n int) bool {
	return n >= -mostFactor && n <= mostFactor
}

// Add returns the seam whose values are the sums of those of two seams with the same degree and knots.
func Add(s, u api.Seam) (api.Seam, api.Errno) {
	if !isSeam(s) || !isSeam(u) || s.Degree != u.Degree || !slices.Equal(s.Knots, u.Knots) {
		return api.Seam{}, api.ErrArg
	}
	var list []api.Frac
	for i, height := range s.Heights {
		list = append(list, plus(height, u.Heights[i]))
	}
	return checked(api.Seam{Degree: s.Degree, Knots: slices.Clone(s.Knots), Heights: list})
}
