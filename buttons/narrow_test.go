package buttons_test

import (
	"math"
	"slices"
	"testing"

	"galloon/api"
	"galloon/buttons"
)

// P2.4 and P3: Narrow returns the first one of the narrowest assignments, and a block for less.
func TestNarrowByDefinition(t *testing.T) {
	for _, costs := range slices.Concat(smallCosts(), allCosts(3, -1, 0, 2), largerCosts(7)) {
		want, width := []int(nil), math.MaxInt
		for _, l := range permutations(len(costs)) {
			if widthOf(costs, l) < width {
				want, width = l, widthOf(costs, l)
			}
		}
		l, w, block, e := buttons.Narrow(costs)
		if e != api.OK || !slices.Equal(l, want) || w != width || !isBlockOf(costs, width-1, block) {
			t.Fatalf("Narrow(%v) = %v, %d, %v, %d, want %v, %d", costs, l, w, block, e, want, width)
		}
		if is, e := buttons.IsBlock(costs, w-1, block); e != api.OK || !is {
			t.Fatalf("IsBlock(%v, %d, %v) = %t, %d", costs, w-1, block, is, e)
		}
	}
}

// P2.4: the narrowest assignment need not be a cheapest one, and the smallest width may be at either limit.
func TestEdgesOfNarrow(t *testing.T) {
	for _, c := range []struct {
		costs [][]int
		want  []int
		width int
	}{
		{[][]int{{7}}, []int{0}, 7},
		{[][]int{{-1000}}, []int{0}, -1000},
		{[][]int{{1000}}, []int{0}, 1000},
		{[][]int{{1, 2}, {3, 5}}, []int{1, 0}, 3},
		{[][]int{{0, 3}, {3, 5}}, []int{1, 0}, 3},
		{[][]int{{5, 5}, {5, 5}}, []int{0, 1}, 5},
		{[][]int{{-9, 1000}, {1000, 1000}}, []int{0, 1}, 1000},
		{[][]int{{9, 9, 0}, {0, 0, 0}, {0, 0, 0}}, []int{2, 0, 1}, 0},
		{[][]int{{0, 0, 0}, {9, 9, 1}, {9, 9, 1}}, []int{0, 1, 2}, 9},
	} {
		l, w, block, e := buttons.Narrow(c.costs)
		if e != api.OK || !slices.Equal(l, c.want) || w != c.width || !isBlockOf(c.costs, c.width-1, block) {
			t.Errorf("Narrow(%v) = %v, %d, %v, %d, want %v, %d", c.costs, l, w, block, e, c.want, c.width)
		}
	}
	if _, _, block, _ := buttons.Narrow([][]int{{1, 2}, {3, 5}}); !slices.Equal(block, []int{1}) {
		t.Errorf("the block is %v", block)
	}
}

// lists returns all lists of at most most numbers from first to last.
func lists(most, first, last int) [][]int {
	all := [][]int{nil}
	for begin := 0; most > 0; most-- {
		end := len(all)
		for _, list := range all[begin:end] {
			for number := first; number <= last; number++ {
				all = append(all, append(slices.Clone(list), number))
			}
		}
		begin = end
	}
	return all
}

// P2.4: blocks, and lists that are none, for all numbers about the costs.
func TestIsBlockByDefinition(t *testing.T) {
	check := func(costs [][]int, w int, block []int) {
		t.Helper()
		if is, e := buttons.IsBlock(costs, w, block); e != api.OK || is != isBlockOf(costs, w, block) {
			t.Fatalf("IsBlock(%v, %d, %v) = %t, %d", costs, w, block, is, e)
		}
	}
	some := lists(4, -1, 3)
	for _, costs := range slices.Concat(allCosts(1, -1, 0), allCosts(2, 0, 1), allCosts(3, 0, 1)) {
		for _, block := range some {
			for w := -1; w <= 1; w++ {
				check(costs, w, block)
			}
		}
	}
	sets := lists(7, 0, 0)
	for set := range 1 << 7 {
		var list []int
		for i := range 7 {
			if set>>i&1 == 1 {
				list = append(list, i)
			}
		}
		sets = append(sets, list)
	}
	for _, costs := range largerCosts(7) {
		for _, w := range []int{math.MinInt, -1001, -1000, -2, -1, 0, 1, 2, 500, 999, 1000, math.MaxInt} {
			for _, block := range sets {
				check(costs, w, block)
			}
		}
	}
}

// P2.4: lists that are not in strictly ascending order, or name no button, are no blocks for any number.
func TestNoBlocks(t *testing.T) {
	costs := [][]int{{1, 2}, {3, 5}}
	for _, block := range [][]int{nil, {}, {-1}, {2}, {1, 0}, {0, 0}, {1, 1}, {0, 2}, {-1, 0}, {0, 1, 1}, {0, 1, 2}, {0, 7}, {1, 64}, {math.MinInt}, {math.MaxInt}, {0, math.MaxInt}, make([]int, 1<<16)} {
		for _, w := range []int{math.MinInt, -1, 0, 2, 4, 5, math.MaxInt} {
			if is, e := buttons.IsBlock(costs, w, block); e != api.OK || is {
				t.Errorf("IsBlock(%d, %.20v) = %t, %d", w, block, is, e)
			}
		}
	}
	for w, want := range map[int]bool{math.MinInt: true, 0: true, 2: true, 3: false, math.MaxInt: false} {
		if is, e := buttons.IsBlock(costs, w, []int{1}); e != api.OK || is != want {
			t.Errorf("IsBlock(%d, [1]) = %t, %d", w, is, e)
		}
	}
	for w, want := range map[int]bool{0: true, 1: true, 2: false, 3: false, 5: false} {
		if is, e := buttons.IsBlock(costs, w, []int{0, 1}); e != api.OK || is != want {
			t.Errorf("IsBlock(%d, [0 1]) = %t, %d", w, is, e)
		}
	}
}
