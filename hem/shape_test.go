package hem_test

import (
	"math/big"
	"slices"
	"testing"

	"galloon/api"
	"galloon/hem"
)

// P8.4: Means, Bounds and Turns, of all seams.
func TestShape(t *testing.T) {
	turns := map[int]bool{}
	for seam := range seams {
		means := fracs(meansOf(seam.Degree, seam.Knots))
		if got, e := hem.Means(seam); !slices.Equal(got, means) || e != api.OK {
			t.Fatalf("Means(%v) = %v, %d, want %v", seam, got, e, means)
		}
		low, high, e := hem.Bounds(seam)
		if !isBounds(seam.Heights, low, 1) || !isBounds(seam.Heights, high, -1) || e != api.OK {
			t.Fatalf("Bounds(%v) = %v, %v, %d", seam, low, high, e)
		}
		want := turnsOf(seam.Heights)
		turns[want] = true
		if got, e := hem.Turns(seam); got != want || e != api.OK {
			t.Fatalf("Turns(%v) = %d, %d, want %d", seam, got, e, want)
		}
	}
	for n := range 10 {
		if !turns[n] {
			t.Errorf("no seam has %d turns", n)
		}
	}
}

// isBounds tells whether a fraction is one of the heights, and no height is on the wrong side of it.
func isBounds(heights []api.Frac, bound api.Frac, side int) bool {
	return slices.Contains(heights, bound) && !slices.ContainsFunc(heights, func(f api.Frac) bool { return rat(f).Cmp(rat(bound)) == -side })
}

// P8.4: means that are known.
func TestKnownMeans(t *testing.T) {
	for _, c := range []struct {
		degree int
		knots  []int
		want   []api.Frac
	}{
		{1, first().Knots, wholes(0, 1, 2)}, {2, arch().Knots, wholes(0, 1, 2)}, {0, []int{0, 1, 20}, []api.Frac{of(1, 2), of(21, 2)}}, {0, []int{0, 20}, wholes(10)},
		{1, []int{0, 3, 3, 7, 9}, wholes(3, 3, 7)}, {2, []int{0, 1, 2, 4, 8, 20}, []api.Frac{of(3, 2), of(3, 1), of(6, 1)}},
		{3, []int{0, 0, 0, 0, 20, 20, 20, 20}, []api.Frac{of(0, 1), of(20, 3), of(40, 3), of(20, 1)}}, {3, upTo(0, 7), wholes(2, 3, 4, 5)},
	} {
		seam := seamOf(c.degree, c.knots, slices.Repeat(wholes(7), len(c.knots)-c.degree-1)...)
		if got, e := hem.Means(seam); !slices.Equal(got, c.want) || e != api.OK {
			t.Errorf("Means(%v) = %v, %d, want %v", seam, got, e, c.want)
		}
	}
}

// flat returns the seam of the degree 0 with these heights.
func flat(heights ...api.Frac) api.Seam {
	return seamOf(0, upTo(0, len(heights)), heights...)
}

// P8.4: bounds that are known: fractions are compared by their values.
func TestKnownBounds(t *testing.T) {
	for _, c := range []struct {
		heights   []api.Frac
		low, high api.Frac
	}{
		{wholes(0, 2, 1), of(0, 1), of(2, 1)}, {wholes(-3), of(-3, 1), of(-3, 1)}, {wholes(5, 5, 5), of(5, 1), of(5, 1)}, {wholes(1000, -1000, 999), of(-1000, 1), of(1000, 1)},
		{[]api.Frac{of(1, 2), of(1, 3), of(2, 5), of(3, 5)}, of(1, 3), of(3, 5)}, {[]api.Frac{of(-1, 2), of(-1, 3), of(-2, 5), of(-3, 5)}, of(-3, 5), of(-1, 3)},
		{[]api.Frac{of(997, 6), of(831, 5), of(665, 4)}, of(997, 6), of(665, 4)}, {[]api.Frac{of(5, 1), of(29, 6), of(31, 6), of(-1, 6), of(1, 6)}, of(-1, 6), of(31, 6)}, {[]api.Frac{of(1000, 3), of(999, 2), of(-999, 2), of(-1000, 3)}, of(-999, 2), of(999, 2)},
	} {
		if low, high, e := hem.Bounds(flat(c.heights...)); low != c.low || high != c.high || e != api.OK {
			t.Errorf("Bounds of %v = %v, %v, %d, want %v, %v", c.heights, low, high, e, c.low, c.high)
		}
	}
}

// P8.4: turns that are known: heights 0 are left out.
func TestKnownTurns(t *testing.T) {
	for _, c := range []struct {
		heights []int
		want    int
	}{
		{[]int{0}, 0}, {[]int{0, 0, 0}, 0}, {[]int{5}, 0}, {[]int{-5}, 0}, {[]int{1, 2}, 0}, {[]int{-1, -2}, 0}, {[]int{1, -1}, 1}, {[]int{-1, 1}, 1}, {[]int{0, -1}, 0}, {[]int{-1, 0}, 0}, {[]int{0, 1}, 0}, {[]int{1, 0}, 0},
		{[]int{1, 0, 1}, 0}, {[]int{1, 0, -1}, 1}, {[]int{-1, 0, -1}, 0}, {[]int{-1, 0, 0, 0, 1}, 1}, {[]int{0, 1, 0, -1, 0}, 1}, {[]int{0, 0, -3, 2, 0}, 1}, {[]int{1, 0, -1, 0, 1, 0, -1}, 3},
		{[]int{1000, -1000, 1000, -1000, 1000, -1000, 1000, -1000, 1000, -1000, 1000, -1000, 1000, -1000, 1000}, 14},
	} {
		if got, e := hem.Turns(flat(wholes(c.heights...)...)); got != c.want || e != api.OK {
			t.Errorf("Turns of %v = %d, %d, want %d", c.heights, got, e, c.want)
		}
	}
}

// P8.4: Turns, for all signs of up to seven heights.
func TestAllTurns(t *testing.T) {
	for n := 1; n <= 7; n++ {
		for signs := range tuples(n, 2) {
			var heights []api.Frac
			for i, sign := range signs {
				heights = append(heights, frac(big.NewRat(int64((sign-1)*(1+i*5%7)), int64(1+i%6))))
			}
			if got, e := hem.Turns(flat(heights...)); got != turnsOf(heights) || e != api.OK {
				t.Fatalf("Turns of %v = %d, %d, want %d", heights, got, e, turnsOf(heights))
			}
		}
	}
}

// lineOf returns what the chapter says of Line, for right arguments.
func lineOf(knots []int, degree, a, b int) (api.Seam, api.Errno) {
	var heights []*big.Rat
	for _, mean := range meansOf(degree, knots) {
		heights = append(heights, add(multiply(number(a), mean), number(b)))
	}
	return sewn(degree, knots, heights)
}

// wantLine checks a line, and that its value at any time t is a t + b.
func wantLine(t *testing.T, knots []int, degree, a, b int) api.Errno {
	t.Helper()
	want, errno := lineOf(knots, degree, a, b)
	line, e := hem.Line(knots, degree, a, b)
	if !isSame(line, want) || e != errno {
		t.Fatalf("Line(%v, %d, %d, %d) = %v, %d, want %v, %d", knots, degree, a, b, line, e, want, errno)
	}
	if e != api.OK {
		return e
	}
	for i, time := range someTimes(line) {
		if i%3 != (a-b+60)%3 {
			continue
		}
		value := frac(add(multiply(number(a), rat(time)), number(b)))
		if got, e := hem.Value(line, time); got != value || e != api.OK {
			t.Fatalf("Value(%v, %v) = %v, %d, want %v", line, time, got, e, value)
		}
	}
	return e
}

// P8.4 and P8.5: Line, for the knots of all seams, and for some of them with all factors and summands.
func TestLine(t *testing.T) {
	count := 0
	for seam := range seams {
		count++
		for _, by := range []int{0, 1, 7, 20} {
			a, b := (count*by)%41-20, (count*(by+3))%41-20
			if seam.Degree > 0 {
				wantLine(t, seam.Knots, seam.Degree, a, b)
			} else if got, e := hem.Line(seam.Knots, 0, a, b); e != api.ErrArg || !isEmpty(got) {
				t.Fatalf("Line(%v, 0, %d, %d) = %v, %d", seam.Knots, a, b, got, e)
			}
		}
	}
	full := 0
	for _, knots := range [][]int{{0, 2, 5, 9, 18, 18, 19, 20}, {0, 0, 0, 0, 19, 20, 20, 20}} {
		for a := -20; a <= 20; a++ {
			for b := -20; b <= 20; b++ {
				if wantLine(t, knots, 3, a, b) == api.ErrFull {
					full++
				}
			}
		}
	}
	if full < 20 {
		t.Errorf("only %d lines are no seams", full)
	}
}

// P8.4: lines that are known, and the errors.
func TestKnownLines(t *testing.T) {
	steep := []int{0, 0, 0, 0, 19, 20, 20, 20}
	for _, c := range []struct {
		knots        []int
		degree, a, b int
		want         []api.Frac
		errno        api.Errno
	}{
		{first().Knots, 1, 3, -1, wholes(-1, 2, 5), api.OK}, {first().Knots, 1, 0, 0, wholes(0, 0, 0), api.OK}, {first().Knots, 1, -20, 20, wholes(20, 0, -20), api.OK}, {first().Knots, 1, 20, -20, wholes(-20, 0, 20), api.OK},
		{[]int{0, 1, 2, 4, 8, 20}, 2, 1, 2, []api.Frac{of(7, 2), of(5, 1), of(8, 1)}, api.OK}, {[]int{0, 0, 0, 0, 20, 20, 20, 20}, 3, -1, 0, []api.Frac{of(0, 1), of(-20, 3), of(-40, 3), of(-20, 1)}, api.OK},
		// The greatest Num: of 59/3 times 17, less 1, it is 1000.
		{steep, 3, 17, -1, []api.Frac{of(-1, 1), of(320, 3), of(220, 1), of(1000, 3)}, api.OK},
		{steep, 3, 17, 0, nil, api.ErrFull}, {steep, 3, 20, 20, nil, api.ErrFull}, {steep, 3, -20, -20, nil, api.ErrFull}, {steep, 3, -17, 0, nil, api.ErrFull},
		{first().Knots, 1, 21, 0, nil, api.ErrArg}, {first().Knots, 1, 0, -21, nil, api.ErrArg}, {steep, 3, 21, 20, nil, api.ErrArg}, {steep, 3, 20, -21, nil, api.ErrArg},
		{[]int{0, 1, 2}, 0, 1, 1, nil, api.ErrArg}, {[]int{0, 1, 2}, 0, 0, 0, nil, api.ErrArg}, {[]int{0, 0, 0, 1}, 1, 1, 1, nil, api.ErrArg}, {[]int{0, 1, 1, 2}, 1, 1, 1, nil, api.ErrArg},
		{first().Knots, 2, 1, 1, nil, api.ErrArg}, {first().Knots, 4, 1, 1, nil, api.ErrArg}, {first().Knots, -1, 1, 1, nil, api.ErrArg}, {nil, 1, 1, 1, nil, api.ErrArg}, {nil, 0, 1, 1, nil, api.ErrArg}, {upTo(0, 16), 3, 1, 1, nil, api.ErrArg}, {upTo(6, 21), 3, 1, 1, nil, api.ErrArg}, {upTo(-1, 14), 3, 1, 1, nil, api.ErrArg},
	} {
		want := api.Seam{}
		if c.errno == api.OK {
			want = seamOf(c.degree, c.knots, c.want...)
		}
		got, e := hem.Line(c.knots, c.degree, c.a, c.b)
		if !isSame(got, want) || e != c.errno {
			t.Errorf("Line(%v, %d, %d, %d) = %v, %d, want %v, %d", c.knots, c.degree, c.a, c.b, got, e, want, c.errno)
		}
	}
}

// others returns seams with the same degree and knots.
func others(seam api.Seam) []api.Seam {
	var moved, opposite, wide []api.Frac
	for i, f := range seam.Heights {
		moved = append(moved, of(i-2, 1))
		opposite = append(opposite, of(-f.Num, f.Den))
		wide = append(wide, lowestHeight(17*i-60, 1+i%6))
	}
	var list []api.Seam
	for _, heights := range [][]api.Frac{moved, opposite, wide, seam.Heights} {
		list = append(list, seamOf(seam.Degree, slices.Clone(seam.Knots), heights...))
	}
	return list
}

// P8.4 and P8.5: Add, of all seams: its values are the sums of the values.
func TestAdd(t *testing.T) {
	sums, full := 0, 0
	for seam := range seams {
		for _, other := range others(seam) {
			var heights []*big.Rat
			for i, f := range seam.Heights {
				heights = append(heights, add(rat(f), rat(other.Heights[i])))
			}
			want, errno := sewn(seam.Degree, seam.Knots, heights)
			got, e := hem.Add(seam, other)
			wantSeam(t, "Add", seam, got, e, want, errno)
			if e != api.OK {
				full++
				continue
			}
			sums++
			for i, time := range someTimes(seam) {
				if (i+sums)%4 > 0 {
					continue
				}
				one, _ := hem.Value(seam, time)
				two, _ := hem.Value(other, time)
				sum := frac(add(rat(one), rat(two)))
				if value, e := hem.Value(got, time); value != sum || e != api.OK {
					t.Fatalf("Value(%v, %v) = %v, %d, want %v", got, time, value, e, sum)
				}
			}
		}
	}
	if sums < 1000 || full < 300 {
		t.Errorf("only %d sums, and %d that are no seam", sums, full)
	}
}

// P8.4: sums that are known, and the errors.
func TestKnownSums(t *testing.T) {
	knots := []int{0, 2, 5}
	for _, c := range []struct {
		f, g, want []api.Frac
		errno      api.Errno
	}{
		{wholes(1, 2), wholes(3, -4), wholes(4, -2), api.OK}, {[]api.Frac{of(1, 6), of(1, 2)}, []api.Frac{of(1, 6), of(-1, 2)}, []api.Frac{of(1, 3), of(0, 1)}, api.OK}, {[]api.Frac{of(1, 2), of(-5, 6)}, []api.Frac{of(1, 3), of(2, 3)}, []api.Frac{of(5, 6), of(-1, 6)}, api.OK},
		{wholes(999, -999), wholes(1, -1), wholes(1000, -1000), api.OK}, {wholes(999, 0), wholes(2, 0), nil, api.ErrFull}, {wholes(0, -999), wholes(0, -2), nil, api.ErrFull}, {wholes(1000, 1000), wholes(1000, 1000), nil, api.ErrFull},
		{[]api.Frac{of(1, 5), of(0, 1)}, []api.Frac{of(1, 6), of(0, 1)}, nil, api.ErrFull}, {[]api.Frac{of(0, 1), of(1, 4)}, []api.Frac{of(0, 1), of(1, 3)}, nil, api.ErrFull}, {[]api.Frac{of(999, 2), of(0, 1)}, []api.Frac{of(1, 1), of(0, 1)}, nil, api.ErrFull}, {[]api.Frac{of(999, 2), of(0, 1)}, []api.Frac{of(1, 2), of(0, 1)}, wholes(500, 0), api.OK},
	} {
		want := api.Seam{}
		if c.errno == api.OK {
			want = seamOf(0, knots, c.want...)
		}
		got, e := hem.Add(seamOf(0, knots, c.f...), seamOf(0, knots, c.g...))
		wantSeam(t, "Add", seamOf(0, knots, c.f...), got, e, want, c.errno)
	}
	// Where the knots differ, and the sum of the heights would be too great, ErrArg is named first.
	if got, e := hem.Add(seamOf(0, []int{0, 1}, of(1000, 1)), seamOf(0, []int{0, 2}, of(1000, 1))); e != api.ErrArg || !isEmpty(got) {
		t.Errorf("Add with other knots: %v, %d", got, e)
	}
}
