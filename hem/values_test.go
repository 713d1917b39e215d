package hem_test

import (
	"math/big"
	"slices"
	"testing"

	"galloon/api"
	"galloon/hem"
)

// wantHats checks all hats of a seam at a time, with what the chapter says of them: they add up to 1, and none is negative.
func wantHats(t *testing.T, seam api.Seam, time api.Frac) {
	t.Helper()
	total := number(0)
	for i := range seam.Heights {
		want := frac(hatAt(seam, i, rat(time)))
		got, e := hem.Hat(seam, i, time)
		if got != want || e != api.OK || got.Num < 0 {
			t.Fatalf("Hat(%v, %d, %v) = %v, %d, want %v", seam, i, time, got, e, want)
		}
		total = add(total, rat(got))
	}
	if total.Cmp(number(1)) != 0 {
		t.Fatalf("the hats of %v at %v add up to %v", seam, time, total)
	}
}

// wantValue checks the value of a seam at a time, and that it lies between the smallest and the greatest height.
func wantValue(t *testing.T, seam api.Seam, time api.Frac) {
	t.Helper()
	want := frac(valueAt(seam, rat(time)))
	got, e := hem.Value(seam, time)
	if got != want || e != api.OK {
		t.Fatalf("Value(%v, %v) = %v, %d, want %v", seam, time, got, e, want)
	}
	low, high, _ := hem.Bounds(seam)
	if rat(got).Cmp(rat(low)) < 0 || rat(got).Cmp(rat(high)) > 0 {
		t.Fatalf("Value(%v, %v) = %v, but the bounds are %v and %v", seam, time, got, low, high)
	}
}

// P8.1 and P8.5: hats and values at some times of all seams.
func TestHatsAndValues(t *testing.T) {
	for seam := range seams {
		for _, time := range someTimes(seam) {
			wantHats(t, seam, time)
			wantValue(t, seam, time)
		}
	}
}

// P8.1 and P8.5: hats and values at all times of the known seams.
func TestEveryTime(t *testing.T) {
	for _, seam := range knownSeams() {
		for _, time := range everyTime(seam) {
			wantValue(t, seam, time)
			if time.Den > 10 || time.Den < 3 {
				wantHats(t, seam, time)
			}
		}
	}
}

// P8.1: the values at all different knots of the span, its beginning and its end, too.
func TestValues(t *testing.T) {
	for seam := range seams {
		var want []api.Frac
		for _, knot := range spanKnots(seam) {
			want = append(want, frac(valueAt(seam, number(knot))))
		}
		if got, e := hem.Values(seam); !slices.Equal(got, want) || e != api.OK {
			t.Fatalf("Values(%v) = %v, %d, want %v", seam, got, e, want)
		}
	}
}

// P8.1: values that are known.
func TestKnownValues(t *testing.T) {
	steps := seamOf(0, []int{2, 3, 7, 20}, of(1, 2), of(-5, 1), of(7, 3))
	jump := seamOf(1, []int{0, 0, 1, 1, 2, 2}, wholes(1, 2, 5, 9)...)
	open := seamOf(1, []int{0, 1, 2, 3}, wholes(4, -4)...)
	cube := seamOf(3, []int{0, 0, 0, 0, 1, 1, 1, 1}, wholes(0, 0, 0, 1)...)
	for _, c := range []struct {
		seam    api.Seam
		t, want api.Frac
	}{
		{first(), of(0, 1), of(0, 1)}, {first(), of(1, 2), of(1, 1)}, {first(), of(1, 1), of(2, 1)}, {first(), of(3, 2), of(3, 2)}, {first(), of(2, 1), of(1, 1)}, {first(), of(1, 12), of(1, 6)}, {first(), of(23, 12), of(13, 12)},
		{arch(), of(0, 1), of(0, 1)}, {arch(), of(1, 1), of(1, 2)}, {arch(), of(1, 2), of(3, 8)}, {arch(), of(2, 1), of(0, 1)}, {arch(), of(1, 11), of(21, 242)},
		// A knot begins what follows it; the end of the span ends what is before it.
		{steps, of(2, 1), of(1, 2)}, {steps, of(35, 12), of(1, 2)}, {steps, of(3, 1), of(-5, 1)}, {steps, of(83, 12), of(-5, 1)}, {steps, of(7, 1), of(7, 3)}, {steps, of(20, 1), of(7, 3)},
		{jump, of(0, 1), of(1, 1)}, {jump, of(11, 12), of(23, 12)}, {jump, of(1, 1), of(5, 1)}, {jump, of(13, 12), of(16, 3)}, {jump, of(2, 1), of(9, 1)},
		// The span is in the middle of the knots.
		{open, of(1, 1), of(4, 1)}, {open, of(3, 2), of(0, 1)}, {open, of(5, 3), of(-4, 3)}, {open, of(2, 1), of(-4, 1)},
		{cube, of(5, 12), of(125, 1728)}, {cube, of(11, 12), of(1331, 1728)}, {cube, of(1, 1), of(1, 1)}, {cube, of(0, 1), of(0, 1)},
	} {
		if got, e := hem.Value(c.seam, c.t); got != c.want || e != api.OK {
			t.Errorf("Value(%v, %v) = %v, %d, want %v", c.seam, c.t, got, e, c.want)
		}
	}
	for _, c := range []struct {
		seam api.Seam
		want []api.Frac
	}{
		{first(), wholes(0, 2, 1)}, {arch(), wholes(0, 0)}, {steps, []api.Frac{of(1, 2), of(-5, 1), of(7, 3), of(7, 3)}}, {jump, wholes(1, 5, 9)}, {open, wholes(4, -4)}, {cube, wholes(0, 1)},
	} {
		if got, e := hem.Values(c.seam); !slices.Equal(got, c.want) || e != api.OK {
			t.Errorf("Values(%v) = %v, %d, want %v", c.seam, got, e, c.want)
		}
	}
}

// P8.1: hats that are known: those of even knots, those with all knots at both ends, and those at the end of the span.
func TestKnownHats(t *testing.T) {
	even := seamOf(3, upTo(2, 9), wholes(0, 0, 0, 0)...)
	ends := seamOf(3, []int{0, 0, 0, 0, 1, 1, 1, 1}, wholes(0, 0, 0, 0)...)
	uneven := seamOf(2, []int{0, 1, 3, 7, 10, 20}, wholes(0, 0, 0)...)
	for _, c := range []struct {
		seam api.Seam
		t    api.Frac
		want []api.Frac
	}{
		{even, of(5, 1), []api.Frac{of(1, 6), of(2, 3), of(1, 6), of(0, 1)}}, {even, of(6, 1), []api.Frac{of(0, 1), of(1, 6), of(2, 3), of(1, 6)}},
		{even, of(11, 2), []api.Frac{of(1, 48), of(23, 48), of(23, 48), of(1, 48)}},
		{ends, of(1, 3), []api.Frac{of(8, 27), of(4, 9), of(2, 9), of(1, 27)}}, {ends, of(0, 1), wholes(1, 0, 0, 0)}, {ends, of(1, 1), wholes(0, 0, 0, 1)},
		{uneven, of(3, 1), []api.Frac{of(2, 3), of(1, 3), of(0, 1)}}, {uneven, of(5, 1), []api.Frac{of(1, 6), of(29, 42), of(1, 7)}}, {uneven, of(7, 1), []api.Frac{of(0, 1), of(3, 7), of(4, 7)}},
	} {
		for i, want := range c.want {
			if got, e := hem.Hat(c.seam, i, c.t); got != want || e != api.OK {
				t.Errorf("Hat(%v, %d, %v) = %v, %d, want %v", c.seam, i, c.t, got, e, want)
			}
		}
	}
}

// P8.5: if the first p + 1 knots are equal, the value at the beginning of the span is the first height; and,
// as a seam may be reversed, likewise at the end.
func TestEnds(t *testing.T) {
	begins, ends := 0, 0
	for seam := range seams {
		p, n, k := seam.Degree, len(seam.Heights), len(seam.Knots)
		begin, end := span(seam)
		if seam.Knots[0] == seam.Knots[p] {
			begins++
			if got, e := hem.Value(seam, of(begin, 1)); got != seam.Heights[0] || e != api.OK {
				t.Fatalf("Value(%v, %d) = %v, %d", seam, begin, got, e)
			}
		}
		if seam.Knots[k-1] == seam.Knots[k-p-1] {
			ends++
			if got, e := hem.Value(seam, of(end, 1)); got != seam.Heights[n-1] || e != api.OK {
				t.Fatalf("Value(%v, %d) = %v, %d", seam, end, got, e)
			}
		}
	}
	if begins < 100 || ends < 100 {
		t.Errorf("only %d begin, and %d end, with p + 1 knots", begins, ends)
	}
}

// P8.5: the sequence of Values changes its sign at most Turns times.
func TestSignsOfValues(t *testing.T) {
	changes := 0
	for seam := range seams {
		values, _ := hem.Values(seam)
		turns, _ := hem.Turns(seam)
		changes += turnsOf(values)
		if turnsOf(values) > turns {
			t.Fatalf("Values(%v) = %v, but Turns is %d", seam, values, turns)
		}
	}
	if changes < 100 {
		t.Errorf("only %d changes of the sign", changes)
	}
}

// Rule 6: the values with the greatest Dens and Nums are exact.
func TestGreatValues(t *testing.T) {
	greatest := new(big.Int)
	for _, knots := range [][]int{{0, 2, 5, 9, 16, 18, 19, 20}, {0, 1, 2, 3, 16, 18, 19, 20}, {0, 3, 6, 7, 20, 20, 20, 20}, {1, 2, 4, 4, 17, 18, 20, 20}, {0, 1, 4, 6, 17, 18, 19, 20}, {0, 1, 2, 4, 15, 17, 18, 20}} {
		for _, heights := range [][]api.Frac{{of(997, 6), of(-999, 5), of(999, 4), of(-1000, 3)}, {of(-997, 3), of(997, 4), of(998, 5), of(995, 6)}, wholes(1000, 1000, 1000, 1000), wholes(-1000, 999, -1000, 999), wholes(-999, -1000, -999, -1000)} {
			seam := seamOf(3, knots, heights...)
			for i, time := range everyTime(seam) {
				if time.Den < 7 && i%5 > 0 {
					continue
				}
				wantValue(t, seam, time)
				got, _ := hem.Value(seam, time)
				if size := rat(got).Denom(); size.Cmp(greatest) > 0 {
					greatest = size
				}
			}
		}
	}
	if greatest.Cmp(big.NewInt(1e9)) < 0 {
		t.Errorf("the greatest Den is only %d", greatest)
	}
}
