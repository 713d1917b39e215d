package remnant_test

import (
	"slices"
	"testing"

	"galloon/api"
	"galloon/remnant"
)

// number returns what Best says of the stock.
func number(t *testing.T, s stock) int {
	t.Helper()
	_, n, e := remnant.Best(s.room, s.pieces)
	if e != api.OK {
		t.Fatalf("Best(%d, %v): %d", s.room, s.pieces, e)
	}
	return n
}

// wantBounds checks the chapter's bounds.
func wantBounds(t *testing.T, s stock) {
	t.Helper()
	best := number(t, s)
	weight, a, e := remnant.Weight(s.room, s.pieces)
	if e != api.OK || weight > best || weight*s.room < total(s.pieces) {
		t.Fatalf("Weight(%d, %v) = %d, %d, %d with %d boxes", s.room, s.pieces, weight, a, e, best)
	}
	for name, way := range map[string]func(int, []int) ([]int, api.Errno){"First": remnant.First, "Tight": remnant.Tight, "Falling": remnant.Falling} {
		packing, e := way(s.room, s.pieces)
		loads, f := remnant.Loads(s.room, s.pieces, packing)
		low := 0
		for _, load := range loads {
			if 2*load <= s.room {
				low++
			}
		}
		count, g := remnant.Check(s.room, s.pieces, packing)
		if e != api.OK || f != api.OK || g != api.OK || low > 1 || len(loads) != count || count < best {
			t.Fatalf("%s(%d, %v) = %v, %d with loads %v", name, s.room, s.pieces, packing, e, loads)
		}
		if name == "Falling" && 9*count > 11*best+6 {
			t.Fatalf("Falling(%d, %v) has %d boxes, and %d are enough", s.room, s.pieces, count, best)
		}
	}
	if _, full, e := remnant.Fill(s.room, s.pieces); e != api.OK || full > best {
		t.Fatalf("Fill(%d, %v): %d, %d, with %d boxes of Best", s.room, s.pieces, full, e, best)
	}
}

// wantFurther checks what a further piece does.
func wantFurther(t *testing.T, s stock) {
	t.Helper()
	best := number(t, s)
	for _, size := range []int{1, s.room/3 + 1, s.room / 2, s.room/2 + 1, s.room} {
		more := stock{s.room, append(slices.Clone(s.pieces), max(1, size))}
		if further := number(t, more); further < best || further > best+1 {
			t.Fatalf("Best(%d, %v) has %d boxes, and %d with a further piece of %d", s.room, s.pieces, best, further, size)
		}
	}
}

// P9.6: the bounds, of few pieces and of up to MaxPieces.
func TestBounds(t *testing.T) {
	for s := range smallStocks {
		wantBounds(t, s)
		wantFurther(t, s)
	}
	for i, s := range slices.Concat(largerStocks(), fullStocks()) {
		wantBounds(t, s)
		if len(s.pieces) < 10 || len(s.pieces) < api.MaxPieces && i%4 == 0 {
			wantFurther(t, s)
		}
	}
	for s := range ascents {
		if s.room%20 < 2 {
			wantBounds(t, s)
		}
	}
}
