package hem

import (
	"maps"
	"slices"

	"galloon/api"
)

// Hat returns the hat of the degree of the seam at the position i, at the time t.
func Hat(seam api.Seam, i int, t api.Frac) (api.Frac, api.Errno) {
	c := curve(seam)
	if !isSeam(seam) || i < 0 || i >= len(seam.Heights) || !c.isTime(t) {
		return api.Frac{}, api.ErrArg
	}
	return c.hats(t)(c.Degree, i), api.OK
}

// Value returns the value of the seam at the time t.
func Value(seam api.Seam, t api.Frac) (api.Frac, api.Errno) {
	c := curve(seam)
	if !isSeam(seam) || !c.isTime(t) {
		return api.Frac{}, api.ErrArg
	}
	return c.value(t), api.OK
}

// Values returns the values at all different knots of the span, in ascending order of the knots.
func Values(seam api.Seam) ([]api.Frac, api.Errno) {
	if !isSeam(seam) {
		return nil, api.ErrArg
	}
	c := curve(seam)
	var values []api.Frac
	for _, knot := range slices.SortedFunc(maps.Keys(c.counts()), compare) {
		values = append(values, c.value(knot))
	}
	return values, api.OK
}

// hats returns a function that finds the hats at t.
func (c curve) hats(t api.Frac) func(degree, i int) api.Frac {
	// At the end of the span this is the piece before it: each hat is a polynomial there, and takes its limit.
	piece := c.piece(t)
	var hat func(degree, i int) api.Frac
	hat = func(degree, i int) api.Frac {
		result := whole(0)
		if degree == 0 {
			if i == piece {
				result = whole(1)
			}
			return result
		}
		if from, to := c.Knots[i], c.Knots[i+degree]; from < to {
			result = plus(result, product(way(t, from, to), hat(degree-1, i)))
		}
		if from, to := c.Knots[i+1], c.Knots[i+degree+1]; from < to {
			result = plus(result, product(minus(whole(1), way(t, from, to)), hat(degree-1, i+1)))
		}
		return result
	}
	return hat
}

func (c curve) value(t api.Frac) api.Frac {
	hat := c.hats(t)
	return sum(c.Heights, func(i int, height api.Frac) api.Frac {
		return product(height, hat(c.Degree, i))
	})
}
