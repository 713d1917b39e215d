package draw

import "galloon/api"

// Shortest returns the lexicographically smallest one of the shortest draws that meet within their number.
func Shortest(box api.Box) ([]int, api.Errno) {
	l, ok := newLots(box)
	if !ok {
		return nil, api.ErrArg
	}
	needed, smallest := l.images()
	if smallest.size() > 1 {
		return nil, api.ErrNone
	}
	var draws []int
	for left := needed[smallest] - 1; left >= 0; left-- {
		draws = append(draws, 0)
		for !l.canBegin(draws, left, needed) {
			draws[len(draws)-1]++
		}
	}
	return draws, api.OK
}

// canBegin reports whether shortest draws begin with these, if so many are left. From the past, those that are left
// come first: these must send the image that they make to a single state. As the draws are shortest,
// that image needs all that are left.
func (l lots) canBegin(draws []int, left int, needed map[set]int) bool {
	send := l.past(draws)
	for image, number := range needed {
		if number == left && image.sent(send).size() == 1 {
			return true
		}
	}
	return false
}

// Rank returns the smallest number of states in the image of any draws.
func Rank(box api.Box) (int, api.Errno) {
	l, ok := newLots(box)
	if !ok {
		return 0, api.ErrArg
	}
	_, smallest := l.images()
	return smallest.size(), api.OK
}

// images returns the number of draws that each image needs, and the first one of the smallest images.
// The search ends where an image has a single state. It does not look at MaxDraws: by a theorem of Frankl and Pin,
// 56 draws are enough for the smallest image of seven states.
func (l lots) images() (map[set]int, set) {
	smallest := l.all()
	needed := map[set]int{smallest: 0}
	waiting := []set{smallest}
search:
	for len(waiting) > 0 {
		image := waiting[0]
		waiting = waiting[1:]
		for _, send := range l.sends {
			next := image.sent(send)
			if _, known := needed[next]; known {
				continue
			}
			needed[next] = needed[image] + 1
			waiting = append(waiting, next)
			if next.size() < smallest.size() {
				smallest = next
			}
			if smallest.size() == 1 {
				break search
			}
		}
	}
	return needed, smallest
}
