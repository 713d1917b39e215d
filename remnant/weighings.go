package remnant

import "galloon/api"

// Weigh returns the weight of the weighing for a number.
func Weigh(room int, pieces []int, a int) (int, api.Errno) {
	r := remnants{room, pieces}
	if !r.areValid() || a < 0 || a > room/2 {
		return 0, api.ErrArg
	}
	return r.weigh(a), api.OK
}

// weigh counts a box for each piece of more than half of the room, and those boxes that the smaller pieces need beside
// them. Nothing from a on fits beside a piece that leaves less than a.
func (r remnants) weigh(a int) int {
	large, beside, small := 0, 0, 0
	for _, size := range r.sizes {
		switch {
		case size > r.room-a:
			large++
		case 2*size > r.room:
			large++
			beside += r.room - size
		case size >= a:
			small += size
		}
	}
	return large + (max(0, small-beside)+r.room-1)/r.room
}

// Weight returns the greatest weight, and the smallest number that gives it.
func Weight(room int, pieces []int) (int, int, api.Errno) {
	r := remnants{room, pieces}
	if !r.areValid() {
		return 0, 0, api.ErrArg
	}
	greatest, smallest := r.weigh(0), 0
	for a := range room/2 + 1 {
		if weight := r.weigh(a); weight > greatest {
			greatest, smallest = weight, a
		}
	}
	return greatest, smallest, api.OK
}
