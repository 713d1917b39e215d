package remnant_test

import (
	"slices"
	"testing"

	"galloon/api"
	"galloon/remnant"
)

// wantSplit checks Split against all sets with the first piece.
func wantSplit(t *testing.T, pieces []int) {
	t.Helper()
	var want []int
	least := total(pieces) + 1
	for set := range sets(len(pieces)) {
		sum := sumOf(pieces, set)
		difference := max(2*sum-total(pieces), total(pieces)-2*sum)
		holds := len(pieces) == 0 || slices.Contains(set, 0)
		if holds && (difference < least || difference == least && lessSet(set, want)) {
			want, least = set, difference
		}
	}
	if got, n, e := remnant.Split(pieces); !slices.Equal(got, want) || n != least || e != api.OK {
		t.Fatalf("Split(%v) = %v, %d, %d, want %v, %d", pieces, got, n, e, want, least)
	}
}

// wantRest checks Rest against all sets.
func wantRest(t *testing.T, s stock) {
	t.Helper()
	var want []int
	greatest := -1
	for set := range sets(len(s.pieces)) {
		sum := sumOf(s.pieces, set)
		if sum <= s.room && (sum > greatest || sum == greatest && lessSet(set, want)) {
			want, greatest = set, sum
		}
	}
	if got, n, e := remnant.Rest(s.room, s.pieces); !slices.Equal(got, want) || n != s.room-greatest || e != api.OK {
		t.Fatalf("Rest(%d, %v) = %v, %d, %d, want %v, %d", s.room, s.pieces, got, n, e, want, s.room-greatest)
	}
}

// P9.5: the sets of pieces, few and up to MaxPieces, held against all sets.
func TestSets(t *testing.T) {
	for s := range smallStocks {
		wantRest(t, s)
		wantSplit(t, s.pieces)
	}
	for _, s := range slices.Concat(largerStocks(), fullStocks()) {
		wantRest(t, s)
		wantSplit(t, s.pieces)
	}
	for _, room := range []int{1, 12, 13, 77, 99, 100} {
		for n := range api.MaxPieces + 1 {
			for _, size := range []int{1, room/12 + 1, room/2 + 1, room} {
				wantRest(t, stock{room, slices.Repeat([]int{size}, n)})
				wantSplit(t, slices.Repeat([]int{size}, n))
			}
		}
	}
}

// P9.5: sets that are known.
func TestKnownSets(t *testing.T) {
	for _, x := range []struct {
		pieces, want []int
		least        int
	}{
		{nil, nil, 0}, {[]int{7}, []int{0}, 7}, {[]int{100, 1}, []int{0}, 99}, {[]int{1, 100}, []int{0}, 99}, {[]int{3, 1, 2}, []int{0}, 0}, {[]int{1, 2, 3}, []int{0, 1}, 0}, {[]int{2, 2, 2}, []int{0}, 2}, {[]int{2, 2, 2, 2}, []int{0, 1}, 0},
		{[]int{1, 1, 3, 1}, []int{0, 1, 3}, 0}, {[]int{3, 1, 1, 2, 1}, []int{0, 1}, 0}, {[]int{5, 4, 1, 5, 5}, []int{0, 1, 2}, 0}, {slices.Repeat([]int{100}, 12), upTo(0, 5), 0}, {slices.Repeat([]int{100}, 11), upTo(0, 4), 100},
	} {
		if got, n, e := remnant.Split(x.pieces); !slices.Equal(got, x.want) || n != x.least || e != api.OK {
			t.Errorf("Split(%v) = %v, %d, %d, want %v, %d", x.pieces, got, n, e, x.want, x.least)
		}
	}
	for _, x := range []struct {
		room         int
		pieces, want []int
		left         int
	}{
		{10, nil, nil, 10}, {1, nil, nil, 1}, {10, []int{10}, []int{0}, 0}, {10, []int{1}, []int{0}, 9}, {10, []int{6, 5, 4}, []int{0, 2}, 0}, {10, []int{6, 5, 5, 4}, []int{0, 3}, 0}, {10, []int{5, 6, 4, 5}, []int{0, 3}, 0},
		{10, []int{6, 6, 6}, []int{0}, 4}, {10, []int{5, 10, 5}, []int{0, 2}, 0}, {10, []int{10, 5, 5}, []int{0}, 0}, {10, []int{5, 5, 10}, []int{0, 1}, 0}, {10, []int{1, 9, 1}, []int{0, 1}, 0}, {10, []int{4, 4, 4}, []int{0, 1}, 2},
		{100, slices.Repeat([]int{1}, 12), upTo(0, 11), 88}, {100, slices.Repeat([]int{9}, 12), upTo(0, 10), 1},
	} {
		if got, n, e := remnant.Rest(x.room, x.pieces); !slices.Equal(got, x.want) || n != x.left || e != api.OK {
			t.Errorf("Rest(%d, %v) = %v, %d, %d, want %v, %d", x.room, x.pieces, got, n, e, x.want, x.left)
		}
	}
}
