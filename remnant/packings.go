package remnant

import (
	"cmp"
	"slices"

	"galloon/api"
)

// packing is the pieces that are in each box. The order of the boxes means nothing.
type packing struct {
	boxes [api.MaxPieces]set
	count int
}

// with returns the packing with one more box.
func (p packing) with(box set) packing {
	p.boxes[p.count] = box
	p.count++
	return p
}

// list returns the box of each of n pieces, -1 for none. The boxes are numbered in the order of their first pieces.
func (p packing) list(n int) []int {
	boxes := p.boxes[:p.count]
	slices.SortFunc(boxes, func(a, b set) int { return cmp.Compare(a.first(), b.first()) })
	list := slices.Repeat([]int{-1}, n)
	for number, box := range boxes {
		for _, i := range box.positions() {
			list[i] = number
		}
	}
	return list
}

// fewest returns the first one of the packings that have the fewest boxes.
func fewest(packings ...packing) packing {
	return slices.MinFunc(packings, byCount)
}

// most returns the first one of the packings that have the most boxes.
func most(packings ...packing) packing {
	return slices.MaxFunc(packings, byCount)
}

func byCount(a, b packing) int {
	return cmp.Compare(a.count, b.count)
}

// Best returns a right packing with the smallest number of boxes, and this number.
func Best(room int, pieces []int) ([]int, int, api.Errno) {
	r := remnants{room, pieces}
	if !r.areValid() {
		return nil, 0, api.ErrArg
	}
	best := remembered(r.best)(r.all())
	return best.list(len(pieces)), best.count, api.OK
}

// best finds the fewest boxes for the pieces that are left, by trying what is in one box with the first of them.
func (r remnants) best(left set, smaller func(set) packing) packing {
	if left == 0 {
		return packing{}
	}
	load := r.load(left)
	best := smaller(left &^ left.first()).with(left.first())
	for box := range left.withFirst() {
		if (best.count-1)*r.room < load {
			break // One box less has not enough room.
		}
		if r.load(box) <= r.room {
			best = fewest(best, smaller(left&^box).with(box))
		}
	}
	return best
}

// Ways returns the number of right packings.
func Ways(room int, pieces []int) (int, api.Errno) {
	r := remnants{room, pieces}
	if !r.areValid() {
		return 0, api.ErrArg
	}
	return remembered(r.ways)(r.all()), api.OK
}

// ways counts the right packings of the pieces that are left, by what is in one box with the first of them.
func (r remnants) ways(left set, smaller func(set) int) int {
	if left == 0 {
		return 1
	}
	ways := 0
	for box := range left.withFirst() {
		if r.load(box) <= r.room {
			ways += smaller(left &^ box)
		}
	}
	return ways
}

// Check returns the number of boxes of a right packing.
func Check(room int, pieces, packing []int) (int, api.Errno) {
	r := remnants{room, pieces}
	if !r.areValid() {
		return 0, api.ErrArg
	}
	count, ok := r.count(packing, 0)
	if !ok {
		return 0, api.ErrArg
	}
	for _, load := range r.loads(packing) {
		if load > room {
			return 0, api.ErrAnswer
		}
	}
	return count, api.OK
}

// Loads returns the loads of a packing.
func Loads(room int, pieces, packing []int) ([]int, api.Errno) {
	r := remnants{room, pieces}
	if !r.areValid() {
		return nil, api.ErrArg
	}
	count, ok := r.count(packing, 0)
	if !ok {
		return nil, api.ErrArg
	}
	loads := r.loads(packing)
	return slices.Clone(loads[:count]), api.OK
}
