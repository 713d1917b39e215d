package hem_test

import (
	"math/big"
	"slices"
	"testing"

	"galloon/api"
	"galloon/hem"
)

// sewn returns the seam with these heights, or ErrFull if it is none.
func sewn(degree int, knots []int, heights []*big.Rat) (api.Seam, api.Errno) {
	seam := seamOf(degree, knots, fracs(heights)...)
	if !isSeam(seam) {
		return api.Seam{}, api.ErrFull
	}
	return seam, api.OK
}

// inserted returns what the chapter says of Insert, for a knot inside the span that is not there p + 1 times.
func inserted(seam api.Seam, knot int) (api.Seam, api.Errno) {
	p, k := seam.Degree, len(seam.Knots)
	s := 0
	for i := range seam.Knots {
		if seam.Knots[i] <= knot {
			s = i
		}
	}
	var heights []*big.Rat
	for i := 0; i <= k-p-1; i++ {
		if i <= s-p {
			heights = append(heights, rat(seam.Heights[i]))
		} else if i > s-countOf(seam.Knots, knot) {
			heights = append(heights, rat(seam.Heights[i-1]))
		} else {
			a, b := seam.Knots[i], seam.Knots[i+p]
			q := big.NewRat(int64(knot-a), int64(b-a))
			heights = append(heights, add(multiply(subtract(number(1), q), rat(seam.Heights[i-1])), multiply(q, rat(seam.Heights[i]))))
		}
	}
	return sewn(p, slices.Sorted(slices.Values(append(slices.Clone(seam.Knots), knot))), heights)
}

// isSame tells whether two seams are the same.
func isSame(s, u api.Seam) bool {
	return s.Degree == u.Degree && slices.Equal(s.Knots, u.Knots) && slices.Equal(s.Heights, u.Heights)
}

// wantSeam checks what a function returned.
func wantSeam(t *testing.T, what string, seam api.Seam, got api.Seam, e api.Errno, want api.Seam, errno api.Errno) {
	t.Helper()
	if !isSame(got, want) || e != errno {
		t.Fatalf("%s of %v = %v, %d, want %v, %d", what, seam, got, e, want, errno)
	}
}

// wantSameValues checks that a seam with one more knot has the same values and the same area, and no more turns.
func wantSameValues(t *testing.T, seam, finer api.Seam) {
	t.Helper()
	for _, time := range append(someTimes(seam), wholes(spanKnots(finer)...)...) {
		want, _ := hem.Value(seam, time)
		if got, e := hem.Value(finer, time); got != want || e != api.OK {
			t.Fatalf("Value(%v, %v) = %v, %d, but %v of %v", finer, time, got, e, want, seam)
		}
	}
	want, _ := hem.Area(seam)
	if got, e := hem.Area(finer); got != want || e != api.OK {
		t.Fatalf("Area(%v) = %v, %d, but %v of %v", finer, got, e, want, seam)
	}
	most, _ := hem.Turns(seam)
	if got, e := hem.Turns(finer); got > most || e != api.OK {
		t.Fatalf("Turns(%v) = %d, %d, but %d of %v", finer, got, e, most, seam)
	}
}

// P8.2 and P8.5: Insert, of all seams and at all knots inside the span.
func TestInsert(t *testing.T) {
	found := map[[2]int]int{}
	for seam := range seams {
		begin, end := span(seam)
		for knot := begin + 1; knot < end; knot++ {
			count := countOf(seam.Knots, knot)
			if count > seam.Degree {
				continue
			}
			want, errno := inserted(seam, knot)
			got, e := hem.Insert(seam, knot)
			wantSeam(t, "Insert", seam, got, e, want, errno)
			if e == api.OK {
				found[[2]int{seam.Degree, count}]++
				wantSameValues(t, seam, got)
			} else {
				found[[2]int{-1, seam.Degree}]++
			}
		}
	}
	for degree := range api.MaxDegree + 1 {
		for count := range degree + 1 {
			if found[[2]int{degree, count}] < 30 || found[[2]int{-1, degree}] < 15 {
				t.Errorf("only %d inserted into a seam of the degree %d with %d such knots, and %d not", found[[2]int{degree, count}], degree, count, found[[2]int{-1, degree}])
			}
		}
	}
}

// P8.2: seams with a knot more that are known.
func TestKnownInserts(t *testing.T) {
	half := of(1, 2)
	once := seamOf(2, []int{0, 0, 0, 1, 2, 2, 2}, of(0, 1), half, half, of(0, 1))
	twice := seamOf(2, []int{0, 0, 0, 1, 1, 2, 2, 2}, of(0, 1), half, half, half, of(0, 1))
	thrice := seamOf(2, []int{0, 0, 0, 1, 1, 1, 2, 2, 2}, of(0, 1), half, half, half, half, of(0, 1))
	steps := seamOf(0, []int{2, 5, 20}, of(5, 6), of(-1000, 1))
	for _, c := range []struct {
		seam api.Seam
		knot int
		want api.Seam
	}{
		{arch(), 1, once}, {once, 1, twice}, {twice, 1, thrice},
		{steps, 3, seamOf(0, []int{2, 3, 5, 20}, of(5, 6), of(5, 6), of(-1000, 1))}, {steps, 19, seamOf(0, []int{2, 5, 19, 20}, of(5, 6), of(-1000, 1), of(-1000, 1))},
		{first(), 1, seamOf(1, []int{0, 0, 1, 1, 2, 2}, wholes(0, 2, 2, 1)...)},
		{seamOf(1, []int{0, 0, 6, 6}, wholes(0, 1)...), 1, seamOf(1, []int{0, 0, 1, 6, 6}, of(0, 1), of(1, 6), of(1, 1))},
		{seamOf(1, []int{0, 0, 2, 2}, wholes(1000, 998)...), 1, seamOf(1, []int{0, 0, 1, 2, 2}, wholes(1000, 999, 998)...)},
		{seamOf(1, []int{0, 1, 3, 4}, wholes(-5, 5)...), 2, seamOf(1, []int{0, 1, 2, 3, 4}, wholes(-5, 0, 5)...)},
		{seamOf(3, []int{0, 0, 0, 0, 2, 2, 2, 2}, wholes(0, 2, 4, 0)...), 1, seamOf(3, []int{0, 0, 0, 0, 1, 2, 2, 2, 2}, wholes(0, 1, 3, 2, 0)...)},
	} {
		got, e := hem.Insert(c.seam, c.knot)
		wantSeam(t, "Insert", c.seam, got, e, c.want, api.OK)
	}
	for _, knot := range []int{0, 1, 2} {
		if got, e := hem.Insert(thrice, knot); e != api.ErrArg || !isEmpty(got) {
			t.Errorf("Insert(%v, %d) = %v, %d", thrice, knot, got, e)
		}
	}
}

// P8.2: the errors of Insert, and which one comes first.
func TestInsertErrors(t *testing.T) {
	sixteen := seamOf(1, []int{0, 1, 2, 2, 3, 5, 6, 7, 8, 9, 10, 11, 12, 13, 20, 20}, slices.Repeat(wholes(1), 14)...)
	fifteen := seamOf(1, []int{1, 2, 2, 3, 5, 6, 7, 8, 9, 10, 11, 12, 13, 20, 20}, slices.Repeat(wholes(1), 13)...)
	for _, c := range []struct {
		seam api.Seam
		knot int
		want api.Errno
	}{
		{fifteen, 4, api.OK}, {fifteen, 19, api.OK}, {sixteen, 4, api.ErrFull}, {sixteen, 19, api.ErrFull}, {sixteen, 3, api.ErrFull},
		{sixteen, 2, api.ErrArg}, {sixteen, 1, api.ErrArg}, {sixteen, 0, api.ErrArg}, {sixteen, 20, api.ErrArg}, {sixteen, 21, api.ErrArg},
		{arch(), 0, api.ErrArg}, {arch(), 2, api.ErrArg}, {arch(), -1, api.ErrArg}, {arch(), 3, api.ErrArg},
		// What lies beyond the span is no place for a knot, although there are knots.
		{seamOf(1, []int{0, 2, 4, 6, 8, 10}, wholes(1, 1, 1, 1)...), 1, api.ErrArg}, {seamOf(1, []int{0, 2, 4, 6, 8, 10}, wholes(1, 1, 1, 1)...), 9, api.ErrArg},
		{seamOf(1, []int{0, 2, 4, 6, 8, 10}, wholes(1, 1, 1, 1)...), 2, api.ErrArg}, {seamOf(1, []int{0, 2, 4, 6, 8, 10}, wholes(1, 1, 1, 1)...), 8, api.ErrArg},
		{seamOf(1, []int{0, 2, 4, 6, 8, 10}, wholes(1, 1, 1, 1)...), 3, api.OK}, {seamOf(1, []int{0, 2, 4, 6, 8, 10}, wholes(1, 1, 1, 1)...), 7, api.OK},
		{seamOf(0, []int{0, 1, 2}, wholes(1, 1)...), 1, api.ErrArg},
		// Dens up to 6.
		{seamOf(1, []int{0, 0, 7, 7}, wholes(0, 1)...), 1, api.ErrFull}, {seamOf(1, []int{0, 0, 7, 7}, wholes(0, 7)...), 1, api.OK},
		{seamOf(1, []int{0, 0, 2, 2}, of(1, 3), of(1, 4)), 1, api.ErrFull}, {seamOf(1, []int{0, 0, 2, 2}, of(1, 3), of(2, 3)), 1, api.OK}, {seamOf(1, []int{0, 0, 2, 2}, of(1, 3), of(4, 3)), 1, api.OK},
		// Nums up to 1000.
		{seamOf(1, []int{0, 0, 2, 2}, wholes(1000, 999)...), 1, api.ErrFull}, {seamOf(1, []int{0, 0, 2, 2}, wholes(-1000, -999)...), 1, api.ErrFull},
		{seamOf(1, []int{0, 0, 2, 2}, wholes(501, 500)...), 1, api.ErrFull}, {seamOf(1, []int{0, 0, 2, 2}, wholes(500, 499)...), 1, api.OK}, {seamOf(1, []int{0, 0, 2, 2}, wholes(-500, -501)...), 1, api.ErrFull}, {seamOf(1, []int{0, 0, 2, 2}, wholes(-500, -499)...), 1, api.OK},
	} {
		got, e := hem.Insert(c.seam, c.knot)
		if e != c.want || e != api.OK && !isEmpty(got) {
			t.Errorf("Insert(%v, %d) = %v, %d, want the error %d", c.seam, c.knot, got, e, c.want)
		}
	}
}

// P8.2 and P8.5: knots that are inserted again and again, until there are MaxKnots.
func TestInsertOften(t *testing.T) {
	for degree := range api.MaxDegree + 1 {
		ends := append(slices.Repeat([]int{0}, degree+1), slices.Repeat([]int{20}, degree+1)...)
		var heights []api.Frac
		for range len(ends) - degree - 1 {
			heights = append(heights, of(-7, 6))
		}
		seam := seamOf(degree, ends, heights...)
		for knot := 1; len(seam.Knots) < api.MaxKnots; knot++ {
			finer, e := hem.Insert(seam, 1+knot*7%19)
			if e != api.OK {
				t.Fatalf("Insert(%v, %d): %d", seam, 1+knot*7%19, e)
			}
			wantSameValues(t, seam, finer)
			seam = finer
		}
		for knot := 1; knot < 20; knot++ {
			want := api.ErrFull
			if countOf(seam.Knots, knot) > degree {
				want = api.ErrArg
			}
			if got, e := hem.Insert(seam, knot); e != want || !isEmpty(got) {
				t.Errorf("Insert(%v, %d) = %v, %d, want the error %d", seam, knot, got, e, want)
			}
		}
	}
}

// P8.4: Reverse, of all seams, also of what it returns.
func TestReverse(t *testing.T) {
	for seam := range seams {
		k, n := len(seam.Knots), len(seam.Heights)
		want := api.Seam{Degree: seam.Degree}
		for i := range k {
			want.Knots = append(want.Knots, 20-seam.Knots[k-1-i])
		}
		for i := range n {
			want.Heights = append(want.Heights, seam.Heights[n-1-i])
		}
		got, e := hem.Reverse(seam)
		wantSeam(t, "Reverse", seam, got, e, want, api.OK)
		again, e := hem.Reverse(got)
		wantSeam(t, "Reverse", got, again, e, seam, api.OK)
	}
	got, e := hem.Reverse(first())
	wantSeam(t, "Reverse", first(), got, e, seamOf(1, []int{18, 18, 19, 20, 20}, wholes(1, 2, 0)...), api.OK)
}
