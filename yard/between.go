package yard

import (
	"maps"
	"slices"

	"galloon/api"
)

// Between returns the simplest fraction that is greater than f and less than g.
func Between(f, g api.Frac) (api.Frac, api.Errno) {
	if !isValid(f) || !isValid(g) || !isLess(f, g) {
		return api.Frac{}, api.ErrArg
	}
	result := simplest(f, g)
	if result.Den > api.MaxDen {
		return api.Frac{}, api.ErrNone
	}
	return result, api.OK
}

// simplest returns the simplest fraction between two, however great its Den is.
func simplest(low, high api.Frac) api.Frac {
	// The fractions may be greater than 1 here, and high may have the Den 0: then it is greater than all others.
	var search func(low, high api.Frac) api.Frac
	search = func(low, high api.Frac) api.Frac {
		whole := low.Num / low.Den
		following := api.Frac{Num: whole + 1, Den: 1}
		if isLess(following, high) {
			return following
		}
		// All that lies between has this whole part. What is left of it is turned over, which exchanges both ends:
		// the simplest fraction has the smallest Num as well as the smallest Den, and remains the simplest.
		turned := search(
			api.Frac{Num: high.Den, Den: high.Num - whole*high.Den},
			api.Frac{Num: low.Den, Den: low.Num - whole*low.Den},
		)
		return api.Frac{Num: whole*turned.Num + turned.Den, Den: turned.Num}
	}
	return search(low, high)
}

// Neighbors reports whether f is less than g, and they stand next to each other in some row.
func Neighbors(f, g api.Frac) (bool, api.Errno) {
	if !isValid(f) || !isValid(g) {
		return false, api.ErrArg
	}
	return g.Num*f.Den-g.Den*f.Num == 1, api.OK
}

// Touching returns, for a fraction f of the row of n, all fractions of this row that are neighbors of f in some row.
func Touching(n int, f api.Frac) ([]api.Frac, api.Errno) {
	if !isRow(n) || !isValid(f) || f.Den > n {
		return nil, api.ErrArg
	}
	found := map[api.Frac]bool{}
	// All pairs of neighbors are gaps that arise from the widest one by halving;
	// those with f at an end lie in gaps that have f at an end or inside.
	var visit func(g gap)
	visit = func(g gap) {
		if g.low == f {
			found[g.high] = true
		}
		if g.high == f {
			found[g.low] = true
		}
		middle := g.middle()
		if middle.Den > n {
			return
		}
		if !isLess(middle, f) {
			visit(g.left())
		}
		if !isLess(f, middle) {
			visit(g.right())
		}
	}
	visit(widest())
	return slices.SortedFunc(maps.Keys(found), compare), api.OK
}
