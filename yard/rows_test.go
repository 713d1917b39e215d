package yard_test

import (
	"math"
	"slices"
	"sort"
	"testing"

	"galloon/api"
	"galloon/yard"
)

// someRows are all small rows, and the greatest ones.
func someRows() []int {
	list := []int{48, 60, 97, 299, 300}
	for n := 1; n <= 20; n++ {
		list = append(list, n)
	}
	return list
}

// P3.1: Size, and Item at all positions of small rows, and many of large ones.
func TestRowsByDefinition(t *testing.T) {
	for _, n := range someRows() {
		row := rowOf(n)
		if size, e := yard.Size(n); e != api.OK || size != len(row) {
			t.Fatalf("Size(%d) = %d, %d, want %d", n, size, e, len(row))
		}
		for k := 0; k < len(row); k += 1 + len(row)/200 {
			if f, e := yard.Item(n, k); e != api.OK || f != row[k] {
				t.Fatalf("Item(%d, %d) = %v, %d, want %v", n, k, f, e, row[k])
			}
		}
		if f, e := yard.Item(n, len(row)-1); e != api.OK || f != of(1, 1) {
			t.Fatalf("the last item of the row of %d is %v, %d", n, f, e)
		}
	}
}

// P3.1: every n from 1 to MaxRow has a row, and its size.
func TestAllSizes(t *testing.T) {
	size := 1
	for n := 1; n <= api.MaxRow; n++ {
		for i := 1; i <= n; i++ {
			if !hasCommon(i, n) {
				size++
			}
		}
		if got, e := yard.Size(n); e != api.OK || got != size {
			t.Errorf("Size(%d) = %d, %d, want %d", n, got, e, size)
		}
	}
}

// P3.1: positions from 0 to the size minus 1, and nothing else.
func TestRangeOfItems(t *testing.T) {
	for _, n := range someRows() {
		size := len(rowOf(n))
		for _, k := range []int{-1, -2, -size, size, size + 1, 2 * size, 1 << 32, math.MinInt, math.MaxInt} {
			if f, e := yard.Item(n, k); e != api.ErrArg || f != (api.Frac{}) {
				t.Errorf("Item(%d, %d) = %v, %d", n, k, f, e)
			}
		}
		if f, e := yard.Item(n, 0); e != api.OK || f != of(0, 1) {
			t.Errorf("Item(%d, 0) = %v, %d", n, f, e)
		}
	}
}

func checkBeside(t *testing.T, n int, f api.Frac) {
	t.Helper()
	row := rowOf(n)
	below := sort.Search(len(row), func(i int) bool { return !less(row[i], f) })
	above := sort.Search(len(row), func(i int) bool { return less(f, row[i]) })
	if count, e := yard.Below(n, f); e != api.OK || count != below {
		t.Fatalf("Below(%d, %v) = %d, %d, want %d", n, f, count, e, below)
	}
	before, e := yard.Before(n, f)
	if below == 0 && (e != api.ErrNone || before != (api.Frac{})) || below > 0 && (e != api.OK || before != row[below-1]) {
		t.Fatalf("Before(%d, %v) = %v, %d", n, f, before, e)
	}
	next, e := yard.Next(n, f)
	if above == len(row) && (e != api.ErrNone || next != (api.Frac{})) || above < len(row) && (e != api.OK || next != row[above]) {
		t.Fatalf("Next(%d, %v) = %v, %d", n, f, next, e)
	}
}

// P3.1: Below, Before and Next of fractions in the row, and of others.
func TestBesideByDefinition(t *testing.T) {
	for _, n := range someRows() {
		for _, f := range slices.Concat(rowOf(23), largeFracs(), []api.Frac{of(1, n), lowest(n-1, n), of(1, n+1), of(n, n+1)}) {
			checkBeside(t, n, f)
		}
	}
}

// P3.1: nothing is less than 0/1, and nothing greater than 1/1; in all other places there is something.
func TestEndsOfRows(t *testing.T) {
	for n := 1; n <= api.MaxRow; n++ {
		if f, e := yard.Before(n, of(0, 1)); e != api.ErrNone || f != (api.Frac{}) {
			t.Errorf("Before(%d, 0/1) = %v, %d", n, f, e)
		}
		if f, e := yard.Next(n, of(1, 1)); e != api.ErrNone || f != (api.Frac{}) {
			t.Errorf("Next(%d, 1/1) = %v, %d", n, f, e)
		}
		if f, e := yard.Before(n, of(1, 1000000)); e != api.OK || f != of(0, 1) {
			t.Errorf("Before(%d, 1/1000000) = %v, %d", n, f, e)
		}
		if f, e := yard.Next(n, of(999999, 1000000)); e != api.OK || f != of(1, 1) {
			t.Errorf("Next(%d, 999999/1000000) = %v, %d", n, f, e)
		}
		if f, e := yard.Next(n, of(0, 1)); e != api.OK || f != of(1, n) {
			t.Errorf("Next(%d, 0/1) = %v, %d", n, f, e)
		}
		if count, e := yard.Below(n, of(0, 1)); e != api.OK || count != 0 {
			t.Errorf("Below(%d, 0/1) = %d, %d", n, count, e)
		}
		size, _ := yard.Size(n)
		if count, e := yard.Below(n, of(1, 1)); e != api.OK || count != size-1 {
			t.Errorf("Below(%d, 1/1) = %d, %d", n, count, e)
		}
	}
}

// isNearer tells whether g is to be chosen before h: it is nearer to f, or as near, and simpler.
func isNearer(f, g, h api.Frac) bool {
	// Both distances are multiplied by all three Dens.
	a := max(f.Num*g.Den-g.Num*f.Den, g.Num*f.Den-f.Num*g.Den) * h.Den
	b := max(f.Num*h.Den-h.Num*f.Den, h.Num*f.Den-f.Num*h.Den) * g.Den
	if a != b {
		return a < b
	}
	return g.Den < h.Den || g.Den == h.Den && g.Num < h.Num
}

// P3.2: Nearest of fractions in the row, of those in the middle between two of it, and of others.
func TestNearestByDefinition(t *testing.T) {
	for _, n := range someRows() {
		row := rowOf(n)
		list := slices.Concat(rowOf(19), largeFracs())
		for i := 1; i < len(row); i += 1 + len(row)/50 {
			a, b := row[i-1], row[i]
			list = append(list, a, b, lowest(a.Num*b.Den+b.Num*a.Den, 2*a.Den*b.Den))
		}
		for _, f := range list {
			want := row[0]
			for _, g := range row {
				if isNearer(f, g, want) {
					want = g
				}
			}
			if got, e := yard.Nearest(n, f); e != api.OK || got != want {
				t.Fatalf("Nearest(%d, %v) = %v, %d, want %v", n, f, got, e, want)
			}
		}
	}
}

// P3.2: of two at the same distance the simpler one is the nearest, whether it is less or greater.
func TestNearestOfTwo(t *testing.T) {
	for _, c := range []struct {
		n       int
		f, want api.Frac
	}{
		{1, of(1, 2), of(0, 1)},
		{1, of(499999, 1000000), of(0, 1)},
		{1, of(500000, 999999), of(1, 1)},
		{2, of(1, 4), of(0, 1)},
		{2, of(3, 4), of(1, 1)},
		{2, of(1, 2), of(1, 2)},
		{3, of(5, 12), of(1, 2)},
		{3, of(7, 12), of(1, 2)},
		{4, of(7, 24), of(1, 3)},
		{4, of(17, 24), of(2, 3)},
		{5, of(9, 20), of(1, 2)},
		{300, of(1, 600), of(0, 1)},
		{300, of(599, 600), of(1, 1)},
		{300, of(1, 300), of(1, 300)},
		{300, of(1, 1000000), of(0, 1)},
	} {
		if got, e := yard.Nearest(c.n, c.f); e != api.OK || got != c.want {
			t.Errorf("Nearest(%d, %v) = %v, %d, want %v", c.n, c.f, got, e, c.want)
		}
	}
}
