package hem_test

import (
	"math/big"
	"testing"

	"galloon/api"
	"galloon/hem"
)

// slopeOf returns what the chapter says of Slope, for a degree of at least 1.
func slopeOf(seam api.Seam) (api.Seam, api.Errno) {
	p := seam.Degree
	var heights []*big.Rat
	for i := range len(seam.Heights) - 1 {
		height := number(0)
		if difference := seam.Knots[i+p+1] - seam.Knots[i+1]; difference != 0 {
			height = divide(multiply(number(p), subtract(rat(seam.Heights[i+1]), rat(seam.Heights[i]))), number(difference))
		}
		heights = append(heights, height)
	}
	return sewn(p-1, seam.Knots[1:len(seam.Knots)-1], heights)
}

// P8.3: Slope, of all seams.
func TestSlope(t *testing.T) {
	slopes, full := map[int]int{}, map[int]int{}
	for seam := range seams {
		if seam.Degree == 0 {
			if got, e := hem.Slope(seam); e != api.ErrArg || !isEmpty(got) {
				t.Fatalf("Slope(%v) = %v, %d", seam, got, e)
			}
			continue
		}
		want, errno := slopeOf(seam)
		got, e := hem.Slope(seam)
		wantSeam(t, "Slope", seam, got, e, want, errno)
		if e == api.OK {
			slopes[seam.Degree]++
			wantSlope(t, seam, got)
		} else {
			full[seam.Degree]++
		}
	}
	for degree := 1; degree <= api.MaxDegree; degree++ {
		if slopes[degree] < 40 || full[degree] < 40 {
			t.Errorf("degree %d: only %d slopes, and %d that are no seam", degree, slopes[degree], full[degree])
		}
	}
}

// wantSlope checks that the values of a slope are the slope of the values. Between two whole numbers, the values are
// a polynomial of the third degree at most, whose slope follows from four points.
func wantSlope(t *testing.T, seam, slope api.Seam) {
	t.Helper()
	begin, end := span(seam)
	for whole := begin; whole < end; whole++ {
		total := number(0)
		for _, point := range []struct{ sixth, factor int }{{1, 1}, {2, -8}, {4, 8}, {5, -1}} {
			value, e := hem.Value(seam, lowestHeight(6*whole+point.sixth, 6))
			if e != api.OK {
				t.Fatalf("Value of %v: %d", seam, e)
			}
			total = add(total, multiply(number(point.factor), rat(value)))
		}
		want := frac(divide(total, number(2)))
		if got, e := hem.Value(slope, of(2*whole+1, 2)); got != want || e != api.OK {
			t.Fatalf("the slope of %v at %d + 1/2 is %v, %d, want %v", seam, whole, got, e, want)
		}
	}
}

// P8.3: slopes that are known, and the errors.
func TestKnownSlopes(t *testing.T) {
	for _, c := range []struct {
		seam, want api.Seam
		errno      api.Errno
	}{
		{first(), seamOf(0, []int{0, 1, 2}, wholes(2, -1)...), api.OK},
		{arch(), seamOf(1, []int{0, 0, 2, 2}, wholes(1, -1)...), api.OK},
		{seamOf(1, []int{0, 0, 1, 2, 2}, wholes(3, 3, 3)...), seamOf(0, []int{0, 1, 2}, wholes(0, 0)...), api.OK},
		{seamOf(3, []int{0, 0, 0, 0, 1, 1, 1, 1}, wholes(0, 0, 0, 1)...), seamOf(2, []int{0, 0, 0, 1, 1, 1}, wholes(0, 0, 3)...), api.OK},
		{seamOf(3, []int{0, 1, 2, 3, 4, 5, 6, 8}, of(1, 2), of(1, 3), of(1, 6), of(-5, 6)), seamOf(2, []int{1, 2, 3, 4, 5, 6}, of(-1, 6), of(-1, 6), of(-1, 1)), api.OK},
		{seamOf(2, []int{0, 0, 0, 1, 1, 3, 3, 3}, wholes(6, 0, -6, 6, 12)...), seamOf(1, []int{0, 0, 1, 1, 3, 3}, wholes(-12, -12, 12, 6)...), api.OK},
		// The slope is open at both ends.
		{seamOf(1, []int{0, 1, 3, 4}, wholes(-5, 5)...), seamOf(0, []int{1, 3}, wholes(5)...), api.OK},
		// A knot that is there p + 1 times, and neither the first nor the last one.
		{seamOf(1, []int{0, 0, 1, 1, 2, 2}, wholes(1, 2, 3, 4)...), api.Seam{}, api.ErrFull}, {seamOf(1, []int{0, 1, 1, 2, 3}, wholes(1, 2, 3)...), api.Seam{}, api.ErrFull}, {seamOf(1, []int{0, 0, 1, 1, 2}, wholes(0, 0, 0)...), api.Seam{}, api.ErrFull},
		{seamOf(2, []int{0, 0, 0, 1, 1, 1, 2, 2, 2}, wholes(1, 1, 1, 1, 1, 1)...), api.Seam{}, api.ErrFull},
		{seamOf(3, []int{0, 1, 1, 1, 1, 2, 2, 2, 2, 3}, wholes(0, 0, 0, 0, 0, 0)...), api.Seam{}, api.ErrFull},
		// Dens up to 6, and Nums up to 1000.
		{seamOf(1, []int{0, 0, 6, 6}, wholes(0, 1)...), seamOf(0, []int{0, 6}, of(1, 6)), api.OK}, {seamOf(1, []int{0, 0, 7, 7}, wholes(0, 1)...), api.Seam{}, api.ErrFull}, {seamOf(1, []int{0, 0, 1, 1}, of(1, 3), of(1, 4)), api.Seam{}, api.ErrFull},
		{seamOf(1, []int{0, 0, 1, 1}, wholes(-1000, 0)...), seamOf(0, []int{0, 1}, of(1000, 1)), api.OK}, {seamOf(1, []int{0, 0, 1, 1}, wholes(-1000, 1)...), api.Seam{}, api.ErrFull},
		{seamOf(1, []int{0, 0, 1, 1}, wholes(500, -500)...), seamOf(0, []int{0, 1}, of(-1000, 1)), api.OK}, {seamOf(1, []int{0, 0, 1, 1}, wholes(500, -501)...), api.Seam{}, api.ErrFull},
		{seamOf(3, []int{0, 0, 0, 0, 1, 1, 1, 1}, wholes(0, 333, 0, 0)...), seamOf(2, []int{0, 0, 0, 1, 1, 1}, wholes(999, -999, 0)...), api.OK}, {seamOf(3, []int{0, 0, 0, 0, 1, 1, 1, 1}, wholes(0, 334, 0, 0)...), api.Seam{}, api.ErrFull},
		{seamOf(0, []int{0, 1}, of(1, 1)), api.Seam{}, api.ErrArg}, {seamOf(0, []int{0, 1, 2, 3}, wholes(0, 0, 0)...), api.Seam{}, api.ErrArg},
	} {
		got, e := hem.Slope(c.seam)
		wantSeam(t, "Slope", c.seam, got, e, c.want, c.errno)
	}
}

// P8.3: Area, of all seams. Where all hats lie in the span, it is the area below the values: between two whole numbers,
// these are a polynomial of the third degree at most, whose area follows from three points.
func TestArea(t *testing.T) {
	closed := map[int]int{}
	for seam := range seams {
		want := frac(areaOf(seam))
		if got, e := hem.Area(seam); got != want || e != api.OK {
			t.Fatalf("Area(%v) = %v, %d, want %v", seam, got, e, want)
		}
		begin, end := span(seam)
		if seam.Knots[0] != begin || seam.Knots[len(seam.Knots)-1] != end {
			continue
		}
		closed[seam.Degree]++
		total := number(0)
		for whole := begin; whole < end; whole++ {
			for _, point := range []struct{ quarter, factor int }{{1, 2}, {2, -1}, {3, 2}} {
				value, _ := hem.Value(seam, lowestHeight(4*whole+point.quarter, 4))
				total = add(total, divide(multiply(number(point.factor), rat(value)), number(3)))
			}
		}
		if frac(total) != want {
			t.Fatalf("Area(%v) = %v, but the area below the values is %v", seam, want, total)
		}
	}
	for degree := range api.MaxDegree + 1 {
		if closed[degree] < 40 {
			t.Errorf("degree %d: only %d areas below values", degree, closed[degree])
		}
	}
}

// P8.3: areas that are known.
func TestKnownAreas(t *testing.T) {
	for _, c := range []struct {
		seam api.Seam
		want api.Frac
	}{
		{first(), of(5, 2)}, {arch(), of(2, 3)}, {seamOf(0, []int{2, 3, 7, 20}, of(1, 2), of(-5, 1), of(7, 3)), of(65, 6)}, {seamOf(1, []int{0, 1, 2, 3}, wholes(4, -4)...), of(0, 1)},
		{seamOf(3, []int{0, 0, 0, 0, 20, 20, 20, 20}, wholes(1000, 1000, 1000, 1000)...), of(20000, 1)}, {seamOf(0, []int{0, 20}, of(-1000, 1)), of(-20000, 1)},
		{seamOf(3, upTo(0, 7), wholes(1, 1, 1, 1)...), of(4, 1)}, {seamOf(3, []int{0, 0, 0, 0, 1, 1, 1, 1}, wholes(0, 0, 0, 1)...), of(1, 4)},
		{seamOf(3, []int{0, 2, 5, 9, 13, 16, 18, 20}, of(997, 6), of(-999, 5), of(1000, 1), of(-997, 4)), of(577273, 240)},
	} {
		if got, e := hem.Area(c.seam); got != c.want || e != api.OK {
			t.Errorf("Area(%v) = %v, %d, want %v", c.seam, got, e, c.want)
		}
	}
}
