package remnant

import "iter"

// set is a set of pieces: the bit i is 1 if the piece at the position i is in it.
type set uint16

func (s set) has(i int) bool {
	return s>>i&1 == 1
}

// first returns the set of the first piece alone; of the empty set, the empty one.
func (s set) first() set {
	return s & -s
}

// positions returns the positions of the pieces, in ascending order.
func (s set) positions() []int {
	var list []int
	for i := 0; s>>i > 0; i++ {
		if s.has(i) {
			list = append(list, i)
		}
	}
	return list
}

// subsets visits all sets of pieces that are in this one, in the lexicographic order of their positions.
func (s set) subsets() iter.Seq[set] {
	return func(yield func(set) bool) {
		extend(0, s, yield)
	}
}

// extend visits the set, and then it with pieces of those behind it. It reports whether the visit goes on.
func extend(s, behind set, yield func(set) bool) bool {
	if !yield(s) {
		return false
	}
	for behind > 0 {
		next := behind.first()
		behind &^= next
		if !extend(s|next, behind, yield) {
			return false
		}
	}
	return true
}

// withFirst visits the subsets that hold the first piece, if there is one.
func (s set) withFirst() iter.Seq[set] {
	return func(yield func(set) bool) {
		extend(s.first(), s&^s.first(), yield)
	}
}

// remembered returns a function that answers for each set once. It answers with the help of its own answers for
// smaller sets.
func remembered[T any](answer func(left set, smaller func(set) T) T) func(set) T {
	known := map[set]T{}
	var ask func(set) T
	ask = func(left set) T {
		if result, ok := known[left]; ok {
			return result
		}
		result := answer(left, ask)
		known[left] = result
		return result
	}
	return ask
}
