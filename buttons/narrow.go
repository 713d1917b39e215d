package buttons

import (
	"math/bits"

	"galloon/api"
)

// Narrow returns the lexicographically smallest assignment with the smallest width, this width,
// and a block for the number before it.
func Narrow(costs [][]int) ([]int, int, []int, api.Errno) {
	if !isCosts(costs) {
		return nil, 0, nil, api.ErrArg
	}
	n := len(costs)
	var narrowest way
	smallest := api.MaxCost + 1
	for w := range assignments(costs) {
		if width := widthOf(costs, w); width < smallest {
			narrowest, smallest = w, width
		}
	}
	return narrowest.list(n), smallest, blockFor(costs, smallest-1), api.OK
}

func widthOf(costs [][]int, w way) int {
	width := -api.MaxCost
	for button, row := range costs {
		width = max(width, row[w.holes[button]])
	}
	return width
}

// blockFor returns a block for a number that is less than all widths. There is one (Hall's theorem):
// otherwise the buttons could all be put into different holes at costs of at most this number.
func blockFor(costs [][]int, w int) []int {
	for set := range 1 << len(costs) {
		if block := members(set); isBlock(costs, w, block) {
			return block
		}
	}
	return nil
}

// members returns the positions of the bits of a set, in ascending order.
func members(set int) []int {
	var list []int
	for i := range bits.Len(uint(set)) {
		if set>>i&1 == 1 {
			list = append(list, i)
		}
	}
	return list
}

// IsBlock reports whether the block is one for w.
func IsBlock(costs [][]int, w int, block []int) (bool, api.Errno) {
	if !isCosts(costs) {
		return false, api.ErrArg
	}
	return isBlock(costs, w, block), api.OK
}

func isBlock(costs [][]int, w int, block []int) bool {
	holes, last := 0, -1
	for _, button := range block {
		if button <= last || button >= len(costs) {
			return false
		}
		last = button
		for hole, cost := range costs[button] {
			if cost <= w {
				holes |= 1 << hole
			}
		}
	}
	// The empty list has as many holes as buttons, none, and is no block.
	return bits.OnesCount(uint(holes)) < len(block)
}
