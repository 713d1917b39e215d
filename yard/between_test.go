package yard_test

import (
	"slices"
	"testing"

	"galloon/api"
	"galloon/yard"
)

// simplestOf tries all Dens, and for each one all Nums, until one is between f and g.
func simplestOf(f, g api.Frac) api.Frac {
	for den := 1; ; den++ {
		for num := 0; num <= den; num++ {
			if h := of(num, den); less(f, h) && less(h, g) {
				return h
			}
		}
	}
}

// steppedTo takes middles, one after the other, until one is between f and g.
func steppedTo(f, g api.Frac) api.Frac {
	low, high := of(0, 1), of(1, 1)
	for {
		middle := of(low.Num+high.Num, low.Den+high.Den)
		switch {
		case !less(f, middle):
			low = middle
		case !less(middle, g):
			high = middle
		default:
			return middle
		}
	}
}

func checkBetween(t *testing.T, f, g, want api.Frac) {
	t.Helper()
	got, e := yard.Between(f, g)
	if want.Den > api.MaxDen {
		if e != api.ErrNone || got != (api.Frac{}) {
			t.Fatalf("Between(%v, %v) = %v, %d, want ErrNone", f, g, got, e)
		}
	} else if e != api.OK || got != want {
		t.Fatalf("Between(%v, %v) = %v, %d, want %v", f, g, got, e, want)
	}
}

// P3.2: Between of all small fractions.
func TestBetweenByDefinition(t *testing.T) {
	row := rowOf(17)
	for i, f := range row {
		for _, g := range row[i+1:] {
			want := simplestOf(f, g)
			checkBetween(t, f, g, want)
			if stepped := steppedTo(f, g); stepped != want {
				t.Fatalf("between %v and %v: %v, but the first middle is %v", f, g, want, stepped)
			}
		}
	}
}

// P3.2: Between of large fractions.
func TestBetweenLarge(t *testing.T) {
	list := slices.Concat(largeFracs(), rowOf(5))
	for _, f := range list {
		for _, g := range list {
			if less(f, g) {
				checkBetween(t, f, g, steppedTo(f, g))
			}
		}
	}
}

// P3.2: results with a Den of MaxDen, and with one more.
func TestGreatestBetween(t *testing.T) {
	for _, c := range [][3]api.Frac{
		{of(0, 1), of(1, 999999), of(1, 1000000)},
		{of(0, 1), of(1, 1000000), of(1, 1000001)},
		{of(999998, 999999), of(1, 1), of(999999, 1000000)},
		{of(999999, 1000000), of(1, 1), of(1000000, 1000001)},
		{of(499998, 999997), of(1, 2), of(499999, 999999)},
		{of(499999, 999999), of(1, 2), of(500000, 1000001)},
		{of(333333, 1000000), of(1, 3), of(333334, 1000003)},
		{of(333332, 999997), of(1, 3), of(333333, 1000000)},
		{of(1, 1000000), of(1, 999999), of(2, 1999999)},
		{of(1, 1000000), of(1, 999998), of(1, 999999)},
		{of(999998, 999999), of(999999, 1000000), of(1999997, 1999999)},
		{of(1, 1000000), of(999999, 1000000), of(1, 2)},
	} {
		checkBetween(t, c[0], c[1], c[2])
	}
}

// P3.2: f must be less than g.
func TestBetweenInOrder(t *testing.T) {
	list := slices.Concat(rowOf(9), largeFracs())
	for _, f := range list {
		for _, g := range list {
			if less(f, g) {
				continue
			}
			if h, e := yard.Between(f, g); e != api.ErrArg || h != (api.Frac{}) {
				t.Errorf("Between(%v, %v) = %v, %d", f, g, h, e)
			}
		}
	}
}

// besideInSome tells whether f is less than g, and they stand next to each other in a row.
func besideInSome(f, g api.Frac) bool {
	// Both are in no smaller row than this one, and come no closer in a greater one.
	return areBeside(rowOf(max(f.Den, g.Den)), f, g)
}

// P3.2: Neighbors of all small fractions, in both orders, and of one twice.
func TestNeighborsByDefinition(t *testing.T) {
	for _, f := range rowOf(16) {
		for _, g := range rowOf(16) {
			want := besideInSome(f, g)
			for n := 1; n <= 40; n++ {
				if areBeside(rowOf(n), f, g) && !want {
					t.Fatalf("%v and %v stand next to each other in the row of %d alone", f, g, n)
				}
			}
			if is, e := yard.Neighbors(f, g); e != api.OK || is != want {
				t.Fatalf("Neighbors(%v, %v) = %t, %d, want %t", f, g, is, e, want)
			}
		}
	}
}

// P3.2: neighbors in rows above MaxRow.
func TestNeighborsLarge(t *testing.T) {
	for _, c := range []struct {
		f, g api.Frac
		want bool
	}{
		{of(0, 1), of(1, 1000000), true},
		{of(1, 1000000), of(0, 1), false},
		{of(999999, 1000000), of(1, 1), true},
		{of(1, 1000000), of(1, 999999), true},
		{of(1, 999999), of(1, 1000000), false},
		{of(1, 1000000), of(1, 999998), false},
		{of(999998, 999999), of(999999, 1000000), true},
		{of(1, 2), of(500000, 999999), true},
		{of(1, 2), of(500002, 999999), false},
		{of(499999, 1000000), of(1, 2), false},
		{of(317811, 514229), of(514229, 832040), true},
		{of(514229, 832040), of(317811, 514229), false},
		{of(1, 1000000), of(999999, 1000000), false},
		{of(1, 301), of(1, 300), true},
		{of(999999, 1000000), of(999999, 1000000), false},
	} {
		if is, e := yard.Neighbors(c.f, c.g); e != api.OK || is != c.want {
			t.Errorf("Neighbors(%v, %v) = %t, %d", c.f, c.g, is, e)
		}
	}
}

func checkTouching(t *testing.T, n int, f api.Frac) {
	t.Helper()
	var want []api.Frac
	for _, g := range rowOf(n) {
		if besideInSome(f, g) || besideInSome(g, f) {
			want = append(want, g)
		}
	}
	if got, e := yard.Touching(n, f); e != api.OK || !slices.Equal(got, want) {
		t.Fatalf("Touching(%d, %v) = %v, %d, want %v", n, f, got, e, want)
	}
}

// P3.2: Touching of all fractions of small rows, and of some of large ones.
func TestTouchingByDefinition(t *testing.T) {
	for n := 1; n <= 18; n++ {
		for _, f := range rowOf(n) {
			checkTouching(t, n, f)
		}
	}
	for _, f := range []api.Frac{of(0, 1), of(1, 1), of(1, 2), of(2, 5), of(21, 34), of(1, 59), of(59, 60), of(1, 60)} {
		checkTouching(t, 60, f)
	}
}

// P3.2: in the greatest row, 0/1 and 1/1 have one neighbor for each Den, and the last ones have two.
func TestTouchingInGreatestRow(t *testing.T) {
	var above, below []api.Frac
	for den := 300; den >= 1; den-- {
		above = append(above, of(1, den))
		below = append(below, of(300-den, 301-den))
	}
	for _, c := range []struct {
		f    api.Frac
		want []api.Frac
	}{
		{of(0, 1), above},
		{of(1, 1), below},
		{of(1, 300), []api.Frac{of(0, 1), of(1, 299)}},
		{of(299, 300), []api.Frac{of(298, 299), of(1, 1)}},
		{of(149, 299), []api.Frac{of(148, 297), of(1, 2)}},
		{of(1, 151), []api.Frac{of(0, 1), of(1, 152), of(1, 150)}},
		{of(1, 150), []api.Frac{of(0, 1), of(1, 151), of(2, 299), of(1, 149)}},
	} {
		if got, e := yard.Touching(300, c.f); e != api.OK || !slices.Equal(got, c.want) {
			t.Errorf("Touching(300, %v) = %v, %d, want %v", c.f, got, e, c.want)
		}
	}
}

// P3.2: f must be in the row.
func TestTouchingOutside(t *testing.T) {
	for n := 1; n <= api.MaxRow; n++ {
		for _, f := range []api.Frac{of(1, n+1), of(n, n+1), of(1, n+2), of(1, 1000000), of(499999, 999999)} {
			if list, e := yard.Touching(n, f); e != api.ErrArg || len(list) > 0 {
				t.Errorf("Touching(%d, %v) = %v, %d", n, f, list, e)
			}
		}
		if list, e := yard.Touching(n, of(1, n)); e != api.OK || len(list) == 0 {
			t.Errorf("Touching(%d, 1/%d) = %v, %d", n, n, list, e)
		}
	}
}
