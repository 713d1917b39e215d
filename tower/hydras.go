package tower

import (
	"iter"
	"slices"

	"galloon/api"
)

// hydra is the list of a node's children, with all that is in them.
type hydra []hydra

// Chop returns the hydra after a head is chopped with the number n.
func Chop(hydra string, head, n int) (string, api.Errno) {
	return guarded(func() string {
		h := readHydra(hydra)
		path := h.pathTo(head)
		demand(path != nil, api.ErrArg)
		demandTimes(n)
		return written(h.chop(path, n))
	})
}

// Heads returns the number of heads.
func Heads(hydra string) (int, api.Errno) {
	return guarded(func() int {
		count := 0
		for range readHydra(hydra).heads() {
			count++
		}
		return count
	})
}

// Measure returns the ordinal of the hydra.
func Measure(hydra string) (string, api.Errno) {
	return guarded(func() string { return written(readHydra(hydra).measure()) })
}

func (h hydra) size() int {
	size := 1
	for _, child := range h {
		size += child.size()
	}
	return size
}

func (h hydra) appendTo(text []byte) []byte {
	text = append(text, '(')
	for _, child := range h {
		text = child.appendTo(text)
	}
	return append(text, ')')
}

// heads visits the heads from left to right: for each one its path, the positions of the children that lead to it.
func (h hydra) heads() iter.Seq[[]int] {
	return func(yield func([]int) bool) { h.visitHeads(nil, yield) }
}

// visitHeads visits the heads below a node, which has a path itself, and reports whether to go on.
func (h hydra) visitHeads(path []int, yield func([]int) bool) bool {
	for at, child := range h {
		below := append(slices.Clip(path), at)
		if len(child) == 0 && !yield(below) || !child.visitHeads(below, yield) {
			return false
		}
	}
	return true
}

// pathTo returns the path of a head, or nil if there is no such head.
func (h hydra) pathTo(head int) []int {
	number := 0
	for path := range h.heads() {
		if number == head {
			return path
		}
		number++
	}
	return nil
}

// chop returns the node after the head to which the path leads is chopped with the number n.
func (h hydra) chop(path []int, n int) hydra {
	at, below := path[0], path[1:]
	if len(below) == 0 {
		return slices.Concat(h[:at], h[at+1:])
	}
	copies := 1
	if len(below) == 1 {
		copies += n
	}
	return slices.Concat(h[:at], slices.Repeat(hydra{h[at].chop(below, n)}, copies), h[at+1:])
}

// measure returns the ordinal of a node.
func (h hydra) measure() ordinal {
	var blended ordinal
	for _, child := range h {
		blended = blend(blended, power(child.measure()))
	}
	return blended
}
