package remnant

import "galloon/api"

// Split returns the positions of the first set of pieces, with the first piece in it, whose sum differs least from that
// of the others, and the difference.
func Split(pieces []int) ([]int, int, api.Errno) {
	r := remnants{api.MaxRoom, pieces}
	if !r.areValid() {
		return nil, 0, api.ErrArg
	}
	all := r.all()
	part := all.first()
	least := r.difference(part)
	for s := range all.withFirst() {
		if difference := r.difference(s); difference < least {
			part, least = s, difference
		}
	}
	return part.positions(), least, api.OK
}

// difference returns by how much the load of the set differs from that of the other pieces.
func (r remnants) difference(s set) int {
	load, other := r.load(s), r.load(r.all()&^s)
	return max(load-other, other-load)
}

// Rest returns the positions of the first set of pieces that leaves the least room of one box, and this room.
func Rest(room int, pieces []int) ([]int, int, api.Errno) {
	r := remnants{room, pieces}
	if !r.areValid() {
		return nil, 0, api.ErrArg
	}
	best, least := set(0), room
	for s := range r.all().subsets() {
		if left := room - r.load(s); left >= 0 && left < least {
			best, least = s, left
		}
	}
	return best.positions(), least, api.OK
}
