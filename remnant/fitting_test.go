package remnant_test

import (
	"slices"
	"testing"

	"galloon/api"
	"galloon/remnant"
)

// put puts the pieces, in this order, each one into the one of the boxes with enough room left that choose takes, or
// into a new one. The packing is a list of boxes with their pieces.
func put(s stock, order []int, choose func(left []int) int) [][]int {
	var boxes [][]int
	for _, i := range order {
		var open, left []int
		for box, inside := range boxes {
			if rest := s.room - sumOf(s.pieces, inside); rest >= s.pieces[i] {
				open, left = append(open, box), append(left, rest)
			}
		}
		if len(open) == 0 {
			boxes = append(boxes, []int{i})
		} else {
			box := open[choose(left)]
			boxes[box] = append(boxes[box], i)
		}
	}
	return boxes
}

// numbered returns the packing with these boxes: a box has the number of boxes that are used before it.
func numbered(n int, boxes [][]int) []int {
	var list, seen []int
	for i := range n {
		box := slices.IndexFunc(boxes, func(inside []int) bool { return slices.Contains(inside, i) })
		if !slices.Contains(seen, box) {
			seen = append(seen, box)
		}
		list = append(list, slices.Index(seen, box))
	}
	return list
}

func firstOf([]int) int { return 0 }

func leastOf(left []int) int { return slices.Index(left, slices.Min(left)) }

// wantFits checks First, Tight and Falling.
func wantFits(t *testing.T, s stock) {
	t.Helper()
	n := len(s.pieces)
	for _, x := range []struct {
		name string
		way  func(int, []int) ([]int, api.Errno)
		want [][]int
	}{
		{"First", remnant.First, put(s, upTo(0, n-1), firstOf)}, {"Tight", remnant.Tight, put(s, upTo(0, n-1), leastOf)}, {"Falling", remnant.Falling, put(s, ordered(s.pieces), firstOf)},
	} {
		if got, e := x.way(s.room, s.pieces); !slices.Equal(got, numbered(n, x.want)) || e != api.OK {
			t.Fatalf("%s(%d, %v) = %v, %d, want %v", x.name, s.room, s.pieces, got, e, numbered(n, x.want))
		}
	}
}

// P9.2: the simple ways with few pieces, and with up to MaxPieces, held against what the chapter says of them.
func TestFits(t *testing.T) {
	for s := range smallStocks {
		wantFits(t, s)
	}
	for _, s := range largerStocks() {
		wantFits(t, s)
	}
	for _, s := range fullStocks() {
		wantFits(t, s)
	}
	for s := range ascents {
		wantFits(t, s)
	}
}

// ascents visits stocks with pieces of many different and many equal sizes, in and against the order of the sizes.
func ascents(yield func(stock) bool) {
	for room := 1; room <= api.MaxRoom; room++ {
		for n := range api.MaxPieces + 1 {
			for _, step := range []int{0, 1, 7, 50} {
				var pieces []int
				for i := range n {
					pieces = append(pieces, 1+(i*step+room/3)%room)
				}
				backward := slices.Clone(pieces)
				slices.Reverse(backward)
				if !yield(stock{room, pieces}) || !yield(stock{room, backward}) {
					return
				}
			}
		}
	}
}

// P9.2: packings that are known.
func TestKnownFits(t *testing.T) {
	for _, x := range []struct {
		room                         int
		pieces, first, tight, falled []int
	}{
		{10, nil, nil, nil, nil},
		{1, []int{1}, []int{0}, []int{0}, []int{0}},
		{10, []int{6, 5, 4, 5}, []int{0, 1, 0, 1}, []int{0, 1, 0, 1}, []int{0, 1, 0, 1}},
		{10, []int{4, 7, 3}, []int{0, 1, 0}, []int{0, 1, 1}, []int{0, 1, 1}},
		{10, []int{3, 7}, []int{0, 0}, []int{0, 0}, []int{0, 0}},
		{10, []int{4, 4, 4}, []int{0, 0, 1}, []int{0, 0, 1}, []int{0, 0, 1}},
		// Falling puts 9, 8 and 2, 7 and 3: the boxes are numbered anew.
		{10, []int{2, 3, 7, 8, 9}, []int{0, 0, 1, 2, 3}, []int{0, 0, 1, 2, 3}, []int{0, 1, 1, 0, 2}},
		// Two boxes have the least room left: the first one takes the 2.
		{10, []int{7, 7, 2, 3, 1}, []int{0, 1, 0, 1, 0}, []int{0, 1, 0, 1, 0}, []int{0, 1, 1, 0, 1}},
		// A box that is exactly full.
		{10, []int{6, 9, 8, 1, 2, 4}, []int{0, 1, 2, 0, 0, 3}, []int{0, 1, 2, 1, 2, 0}, []int{0, 1, 2, 1, 2, 0}},
		{100, slices.Repeat([]int{51}, 12), upTo(0, 11), upTo(0, 11), upTo(0, 11)},
		{100, slices.Repeat([]int{50}, 12), []int{0, 0, 1, 1, 2, 2, 3, 3, 4, 4, 5, 5}, []int{0, 0, 1, 1, 2, 2, 3, 3, 4, 4, 5, 5}, []int{0, 0, 1, 1, 2, 2, 3, 3, 4, 4, 5, 5}},
		{100, slices.Repeat([]int{1}, 12), make([]int, 12), make([]int, 12), make([]int, 12)},
	} {
		for name, y := range map[string]struct {
			way  func(int, []int) ([]int, api.Errno)
			want []int
		}{"First": {remnant.First, x.first}, "Tight": {remnant.Tight, x.tight}, "Falling": {remnant.Falling, x.falled}} {
			if got, e := y.way(x.room, x.pieces); !slices.Equal(got, y.want) || e != api.OK {
				t.Errorf("%s(%d, %v) = %v, %d, want %v", name, x.room, x.pieces, got, e, y.want)
			}
		}
	}
}
