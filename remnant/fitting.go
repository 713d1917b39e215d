package remnant

import (
	"cmp"
	"slices"

	"galloon/api"
)

// First returns the packing of first fit.
func First(room int, pieces []int) ([]int, api.Errno) {
	r := remnants{room, pieces}
	if !r.areValid() {
		return nil, api.ErrArg
	}
	return r.fit(r.all().positions(), r.firstBox), api.OK
}

// Tight returns the packing of best fit.
func Tight(room int, pieces []int) ([]int, api.Errno) {
	r := remnants{room, pieces}
	if !r.areValid() {
		return nil, api.ErrArg
	}
	return r.fit(r.all().positions(), r.tightestBox), api.OK
}

// Falling returns the packing of first fit in descending order of the sizes.
func Falling(room int, pieces []int) ([]int, api.Errno) {
	r := remnants{room, pieces}
	if !r.areValid() {
		return nil, api.ErrArg
	}
	order := r.all().positions()
	slices.SortStableFunc(order, func(i, j int) int { return cmp.Compare(pieces[j], pieces[i]) })
	return r.fit(order, r.firstBox), api.OK
}

// fit puts the pieces, in this order of their positions, each one into the box that choose finds for its size.
func (r remnants) fit(order []int, choose func(loads [api.MaxPieces]int, size int) int) []int {
	var p packing
	var loads [api.MaxPieces]int
	for _, i := range order {
		box := choose(loads, r.sizes[i])
		loads[box] += r.sizes[i]
		p.boxes[box] |= 1 << i
		p.count = max(p.count, box+1)
	}
	return p.list(len(r.sizes))
}

// firstBox finds the first box with enough room left. That may be the first one that is not used, which is empty:
// there are enough boxes for every piece to be in one of its own.
func (r remnants) firstBox(loads [api.MaxPieces]int, size int) int {
	box := 0
	for loads[box]+size > r.room {
		box++
	}
	return box
}

// tightestBox finds the first one of the boxes with enough room left that have the least. An empty box has more room
// left than every used one.
func (r remnants) tightestBox(loads [api.MaxPieces]int, size int) int {
	tightest := r.firstBox(loads, size)
	for box, load := range loads {
		if load+size <= r.room && load > loads[tightest] {
			tightest = box
		}
	}
	return tightest
}
