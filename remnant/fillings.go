package remnant

import "galloon/api"

// Fill returns a list with the greatest number of full boxes, and this number. It has -1 for pieces that no box needs.
func Fill(room int, pieces []int) ([]int, int, api.Errno) {
	r := remnants{room, pieces}
	if !r.areValid() {
		return nil, 0, api.ErrArg
	}
	fill := remembered(r.fill)(r.all())
	return fill.list(len(pieces)), fill.count, api.OK
}

// fill finds the most full boxes of the pieces that are left: the first of them is in no box, or in one with others.
func (r remnants) fill(left set, smaller func(set) packing) packing {
	if left == 0 {
		return packing{}
	}
	load := r.load(left)
	fill := smaller(left &^ left.first())
	for box := range left.withFirst() {
		if (fill.count+1)*r.room > load {
			break // The pieces do not fill one box more.
		}
		if r.load(box) >= r.room {
			fill = most(fill, smaller(left&^box).with(box))
		}
	}
	return fill
}

// IsFilling returns the number of boxes of a list like those of Fill, if all of them are full.
func IsFilling(room int, pieces, filling []int) (int, api.Errno) {
	r := remnants{room, pieces}
	if !r.areValid() {
		return 0, api.ErrArg
	}
	count, ok := r.count(filling, -1)
	if !ok {
		return 0, api.ErrArg
	}
	loads := r.loads(filling)
	for _, load := range loads[:count] {
		if load < room {
			return 0, api.ErrAnswer
		}
	}
	return count, api.OK
}
