package hem

import (
	"slices"

	"galloon/api"
)

// Insert returns the seam with the same values whose knots are those of the seam, and one more.
func Insert(seam api.Seam, knot int) (api.Seam, api.Errno) {
	c := curve(seam)
	if !isSeam(seam) || knot <= c.begin() || knot >= c.end() {
		return api.Seam{}, api.ErrArg
	}
	count := c.counts()[whole(knot)]
	if count > c.Degree {
		return api.Seam{}, api.ErrArg
	}
	last := c.piece(whole(knot))
	var list []api.Frac
	for i := range len(c.Heights) + 1 {
		switch {
		case i <= last-c.Degree:
			list = append(list, c.Heights[i])
		case i > last-count:
			list = append(list, c.Heights[i-1])
		default:
			q := way(whole(knot), c.Knots[i], c.Knots[i+c.Degree])
			list = append(list, mixed(c.Heights[i-1], c.Heights[i], q))
		}
	}
	return checked(api.Seam{Degree: c.Degree, Knots: slices.Insert(slices.Clone(c.Knots), last+1, knot), Heights: list})
}

// Reverse returns the seam that is turned round: it runs from MaxKnot down.
func Reverse(seam api.Seam) (api.Seam, api.Errno) {
	if !isSeam(seam) {
		return api.Seam{}, api.ErrArg
	}
	var knots []int
	for _, knot := range slices.Backward(seam.Knots) {
		knots = append(knots, api.MaxKnot-knot)
	}
	list := slices.Clone(seam.Heights)
	slices.Reverse(list)
	return api.Seam{Degree: seam.Degree, Knots: knots, Heights: list}, api.OK
}
