package remnant_test

import (
	"slices"
	"testing"

	"galloon/api"
	"galloon/remnant"
)

// weightOf adds up the three numbers of a weighing, in the chapter's words.
func weightOf(s stock, a int) int {
	larger, between, left, small := 0, 0, 0, 0
	for _, size := range s.pieces {
		if size > s.room-a {
			larger++
		}
		if 2*size > s.room && size <= s.room-a {
			between++
			left += s.room - size
		}
		if size >= a && size >= 1 && 2*size <= s.room {
			small += size
		}
	}
	boxes := 0
	for boxes*s.room < small-left {
		boxes++
	}
	return larger + between + boxes
}

// wantWeights checks Weigh for all numbers, and Weight.
func wantWeights(t *testing.T, s stock) {
	t.Helper()
	greatest, smallest := 0, 0
	for a := 0; 2*a <= s.room; a++ {
		want := weightOf(s, a)
		if n, e := remnant.Weigh(s.room, s.pieces, a); n != want || e != api.OK {
			t.Fatalf("Weigh(%d, %v, %d) = %d, %d, want %d", s.room, s.pieces, a, n, e, want)
		}
		if want > greatest {
			greatest, smallest = want, a
		}
	}
	if n, a, e := remnant.Weight(s.room, s.pieces); n != greatest || a != smallest || e != api.OK {
		t.Fatalf("Weight(%d, %v) = %d, %d, %d, want %d at %d", s.room, s.pieces, n, a, e, greatest, smallest)
	}
}

// P9.3: all weighings of few pieces, and of up to MaxPieces, held against what the chapter says of them.
func TestWeighings(t *testing.T) {
	for s := range smallStocks {
		wantWeights(t, s)
	}
	for _, s := range slices.Concat(largerStocks(), fullStocks()) {
		wantWeights(t, s)
	}
	for s := range ascents {
		wantWeights(t, s)
	}
}

// P9.3: weights that are known.
func TestKnownWeights(t *testing.T) {
	for _, x := range []struct {
		room    int
		pieces  []int
		a, want int
	}{
		{10, []int{7, 7, 7, 3, 3, 3}, 0, 3}, {10, []int{7, 7, 7, 3, 3, 3}, 3, 3}, {10, []int{7, 7, 7, 3, 3, 3}, 4, 3}, {10, []int{7, 7, 7, 4, 4, 4}, 0, 4}, {10, []int{7, 7, 7, 4, 4, 4}, 4, 5},
		{10, nil, 0, 0}, {10, nil, 5, 0}, {1, []int{1, 1}, 0, 2}, {2, []int{1, 1}, 0, 1}, {2, []int{1, 1}, 1, 1}, {2, []int{1, 1, 1}, 1, 2},
		{10, []int{5, 5}, 0, 1}, {10, []int{5, 5, 5}, 5, 2}, {11, []int{5, 5, 6}, 5, 2}, {11, []int{5, 5, 6}, 0, 2}, {10, []int{6, 5, 4, 5}, 0, 2},
		{10, []int{8, 2, 1}, 0, 2}, {10, []int{8, 2, 1}, 1, 2}, {10, []int{8, 2, 1}, 2, 1}, {10, []int{8, 2, 1}, 3, 1}, {10, []int{10, 10, 10, 1}, 0, 4}, {10, []int{10, 10, 10, 1}, 2, 3},
		{100, slices.Repeat([]int{50}, 12), 50, 6}, {100, slices.Repeat([]int{50}, 11), 0, 6}, {100, slices.Repeat([]int{51}, 12), 49, 12}, {100, slices.Repeat([]int{34}, 12), 34, 5},
	} {
		if n, e := remnant.Weigh(x.room, x.pieces, x.a); n != x.want || e != api.OK {
			t.Errorf("Weigh(%d, %v, %d) = %d, %d, want %d", x.room, x.pieces, x.a, n, e, x.want)
		}
	}
	for _, x := range []struct {
		room         int
		pieces       []int
		want, number int
	}{
		{10, []int{6, 5, 4, 5}, 2, 0}, {10, nil, 0, 0}, {10, []int{7, 7, 7, 4, 4, 4}, 5, 4}, {10, []int{6, 6, 6, 5, 3, 3}, 4, 5}, {10, []int{9, 8, 7, 3, 4, 4}, 4, 0}, {20, []int{12, 12, 12, 9, 9, 1, 1}, 4, 9}, {20, []int{13, 13, 13, 8, 8, 8}, 5, 8},
	} {
		if n, a, e := remnant.Weight(x.room, x.pieces); n != x.want || a != x.number || e != api.OK {
			t.Errorf("Weight(%d, %v) = %d, %d, %d, want %d, %d", x.room, x.pieces, n, a, e, x.want, x.number)
		}
	}
}

// P9.3: weighings are there for numbers from 0 to half of the room only.
func TestNoWeighings(t *testing.T) {
	for room := 1; room <= api.MaxRoom; room++ {
		for _, a := range slices.Concat(upTo(-2, 102), noInts()) {
			n, e := remnant.Weigh(room, []int{room, 1}, a)
			if wrong := a < 0 || a > room || 2*a > room; (e == api.ErrArg) != wrong || wrong && n != 0 {
				t.Fatalf("Weigh(%d, .., %d) = %d, %d, want ErrArg: %t", room, a, n, e, wrong)
			}
		}
	}
}
