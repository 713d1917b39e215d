package remnant_test

import (
	"slices"
	"testing"

	"galloon/api"
	"galloon/remnant"
)

// wantFill checks that Fill returns a filling with so many boxes, and that IsFilling says so.
func wantFill(t *testing.T, s stock, want int) {
	t.Helper()
	list, n, e := remnant.Fill(s.room, s.pieces)
	if e != api.OK || n != want || !isNumbered(s.pieces, list) || !isFull(s.room, s.pieces, list) || boxCount(list) != n {
		t.Fatalf("Fill(%d, %v) = %v, %d, %d, want %d boxes", s.room, s.pieces, list, n, e, want)
	}
	if k, e := remnant.IsFilling(s.room, s.pieces, list); k != n || e != api.OK {
		t.Fatalf("IsFilling(%d, %v, %v) = %d, %d, want %d", s.room, s.pieces, list, k, e, n)
	}
}

// mostFull returns the greatest number of boxes of a filling, of all of them.
func mostFull(s stock) int {
	most := 0
	for list := range packings(len(s.pieces), -1) {
		if isFull(s.room, s.pieces, list) {
			most = max(most, boxCount(list))
		}
	}
	return most
}

// mostFilled returns the same, by putting every piece into any box that is not full yet; with so many boxes as wanted.
func mostFilled(s stock) int {
	order := ordered(s.pieces)
	for boxes := total(s.pieces) / s.room; boxes > 0; boxes-- {
		loads := make([]int, boxes)
		var place func(i int) bool
		place = func(i int) bool {
			if !slices.ContainsFunc(loads, func(load int) bool { return load < s.room }) {
				return true
			}
			if i == len(order) {
				return false
			}
			for box := range loads {
				// A piece is in the first one of equally loaded boxes, or in no full one.
				if loads[box] >= s.room || slices.Contains(loads[:box], loads[box]) {
					continue
				}
				loads[box] += s.pieces[order[i]]
				if place(i + 1) {
					return true
				}
				loads[box] -= s.pieces[order[i]]
			}
			return false
		}
		if place(0) {
			return boxes
		}
	}
	return 0
}

// P9.4: few pieces, held against all fillings of them.
func TestSmallFillings(t *testing.T) {
	for s := range smallStocks {
		most := mostFull(s)
		if other := mostFilled(s); other != most {
			t.Fatalf("the two ways to find the most full boxes of %v differ: %d, %d", s, most, other)
		}
		wantFill(t, s, most)
	}
	for _, s := range largerStocks() {
		if len(s.pieces) < 8 {
			wantFill(t, s, mostFull(s))
		}
	}
}

// P9.4: up to MaxPieces pieces.
func TestLargerFillings(t *testing.T) {
	for _, s := range slices.Concat(largerStocks(), fullStocks()) {
		wantFill(t, s, mostFilled(s))
	}
}

// P9.4: fillings that are known.
func TestKnownFillings(t *testing.T) {
	for _, x := range []struct {
		room   int
		pieces []int
		want   int
	}{
		{10, nil, 0}, {10, []int{9}, 0}, {10, []int{10}, 1}, {10, []int{4, 4, 4}, 1}, {10, []int{4, 5}, 0}, {10, []int{5, 5}, 1}, {10, []int{7, 7, 7, 3, 3, 3}, 3}, {10, []int{9, 9, 1, 1, 5, 5}, 3},
		{10, []int{9, 9, 9}, 1}, {10, []int{9, 9, 9, 9}, 2}, {1, slices.Repeat([]int{1}, 12), 12}, {100, slices.Repeat([]int{100}, 12), 12}, {100, slices.Repeat([]int{99}, 12), 6}, {100, slices.Repeat([]int{99}, 11), 5},
		{100, slices.Repeat([]int{50}, 12), 6}, {100, slices.Repeat([]int{49}, 12), 4}, {100, slices.Repeat([]int{9}, 12), 1}, {100, slices.Repeat([]int{8}, 12), 0}, {12, slices.Repeat([]int{1}, 12), 1}, {13, slices.Repeat([]int{1}, 12), 0},
		{12, upTo(1, 12), 6}, {11, []int{6, 6, 5, 5, 4, 4, 3}, 3}, {10, []int{1, 9, 2, 8, 3, 7, 4, 6, 5, 5, 10, 10}, 7},
	} {
		wantFill(t, stock{x.room, x.pieces}, x.want)
	}
}

// P9.4: what IsFilling says of lists that are known.
func TestKnownLists(t *testing.T) {
	pieces := []int{6, 5, 4, 5}
	for _, x := range []struct {
		list  []int
		want  int
		errno api.Errno
	}{
		{[]int{0, 1, 0, 1}, 2, api.OK}, {[]int{-1, 0, -1, 0}, 1, api.OK}, {[]int{-1, -1, -1, -1}, 0, api.OK}, {[]int{0, 0, 0, 0}, 1, api.OK}, {[]int{0, 0, -1, 0}, 1, api.OK},
		{[]int{0, -1, -1, -1}, 0, api.ErrAnswer}, {[]int{0, 1, 0, -1}, 0, api.ErrAnswer}, {[]int{-1, 0, 0, -1}, 0, api.ErrAnswer}, {[]int{0, 0, 1, 1}, 0, api.ErrAnswer},
		{[]int{1, 0, 1, 0}, 0, api.ErrArg}, {[]int{-1, 1, -1, 1}, 0, api.ErrArg}, {[]int{0, -2, 0, -1}, 0, api.ErrArg}, {[]int{0, 2, 0, 2}, 0, api.ErrArg}, {[]int{0, 1, 0}, 0, api.ErrArg}, {[]int{0, 1, 0, 1, -1}, 0, api.ErrArg}, {nil, 0, api.ErrArg},
	} {
		if n, e := remnant.IsFilling(10, pieces, x.list); n != x.want || e != x.errno {
			t.Errorf("IsFilling(%v) = %d, %d, want %d, %d", x.list, n, e, x.want, x.errno)
		}
	}
	if n, e := remnant.IsFilling(10, nil, nil); n != 0 || e != api.OK {
		t.Errorf("IsFilling without pieces: %d, %d", n, e)
	}
}
