package yard

import (
	"cmp"
	"iter"

	"galloon/api"
)

// row visits the row of n, in ascending order.
func row(n int) iter.Seq[api.Frac] {
	return func(yield func(api.Frac) bool) {
		f, next := api.Frac{Num: 0, Den: 1}, api.Frac{Num: 1, Den: n}
		for f.Num <= f.Den {
			if !yield(f) {
				return
			}
			// The fractions beside one add up to the same multiple of its Num and of its Den.
			// Of all that arise in this way, the one with the greatest Den is the closest: it comes first.
			times := (n + f.Den) / next.Den
			f, next = next, api.Frac{Num: times*next.Num - f.Num, Den: times*next.Den - f.Den}
		}
	}
}

// Size returns the number of fractions in the row of n.
func Size(n int) (int, api.Errno) {
	if !isRow(n) {
		return 0, api.ErrArg
	}
	size := 0
	for range row(n) {
		size++
	}
	return size, api.OK
}

// Item returns the fraction at the position k of the row of n.
func Item(n, k int) (api.Frac, api.Errno) {
	if !isRow(n) {
		return api.Frac{}, api.ErrArg
	}
	position := 0
	for f := range row(n) {
		if position == k {
			return f, api.OK
		}
		position++
	}
	return api.Frac{}, api.ErrArg
}

// Below returns how many fractions of the row of n are less than f.
func Below(n int, f api.Frac) (int, api.Errno) {
	if !isRow(n) || !isValid(f) {
		return 0, api.ErrArg
	}
	count := 0
	for g := range row(n) {
		if !isLess(g, f) {
			break
		}
		count++
	}
	return count, api.OK
}

// Next returns the smallest fraction of the row of n that is greater than f.
func Next(n int, f api.Frac) (api.Frac, api.Errno) {
	if !isRow(n) || !isValid(f) {
		return api.Frac{}, api.ErrArg
	}
	for g := range row(n) {
		if isLess(f, g) {
			return g, api.OK
		}
	}
	return api.Frac{}, api.ErrNone
}

// Before returns the greatest fraction of the row of n that is less than f.
func Before(n int, f api.Frac) (api.Frac, api.Errno) {
	if !isRow(n) || !isValid(f) {
		return api.Frac{}, api.ErrArg
	}
	before, errno := api.Frac{}, api.ErrNone
	for g := range row(n) {
		if !isLess(g, f) {
			break
		}
		before, errno = g, api.OK
	}
	return before, errno
}

// Nearest returns the fraction of the row of n with the smallest distance from f, the simpler one of two.
func Nearest(n int, f api.Frac) (api.Frac, api.Errno) {
	if !isRow(n) || !isValid(f) {
		return api.Frac{}, api.ErrArg
	}
	nearest := api.Frac{Num: 0, Den: 1}
	for g := range row(n) {
		if cmp.Or(compareDistances(f, g, nearest), compareSimplicity(g, nearest)) < 0 {
			nearest = g
		}
	}
	return nearest, api.OK
}

// compareDistances compares two fractions by their distances from f.
func compareDistances(f, a, b api.Frac) int {
	return cmp.Compare(distance(f, a)*b.Den, distance(f, b)*a.Den)
}

// distance returns the distance of two fractions, multiplied by both Dens.
func distance(f, g api.Frac) int {
	difference := f.Num*g.Den - g.Num*f.Den
	return max(difference, -difference)
}

func compareSimplicity(a, b api.Frac) int {
	return cmp.Or(cmp.Compare(a.Den, b.Den), cmp.Compare(a.Num, b.Num))
}
