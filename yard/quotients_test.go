package yard_test

import (
	"math"
	"math/big"
	"slices"
	"testing"

	"galloon/api"
	"galloon/yard"
)

// foldOf returns the fraction 1 / (q0 + 1 / (q1 + ...)).
func foldOf(quotients []int) *big.Rat {
	if len(quotients) == 0 {
		return new(big.Rat)
	}
	sum := big.NewRat(int64(quotients[0]), 1)
	sum.Add(sum, foldOf(quotients[1:]))
	return sum.Inv(sum)
}

func checkFold(t *testing.T, quotients []int) {
	t.Helper()
	given := slices.Clone(quotients)
	f, e := yard.Fold(quotients)
	want := foldOf(quotients)
	if !want.Denom().IsInt64() || want.Denom().Int64() > api.MaxDen {
		if e != api.ErrFull || f != (api.Frac{}) {
			t.Fatalf("Fold(%v) = %v, %d, want ErrFull", quotients, f, e)
		}
		return
	}
	if e != api.OK || int64(f.Num) != want.Num().Int64() || int64(f.Den) != want.Denom().Int64() {
		t.Fatalf("Fold(%v) = %v, %d, want %v", quotients, f, e, want)
	}
	if list, e := yard.Quotients(f); e != api.OK || !slices.Equal(list, quotients) {
		t.Fatalf("Quotients(%v) = %v, %d, want %v", f, list, e, quotients)
	}
	if !slices.Equal(given, quotients) {
		t.Fatalf("Fold has changed %v to %v", given, quotients)
	}
}

// P3.3: Quotients of all small fractions, and of large ones, and Fold of these.
func TestQuotientsByDefinition(t *testing.T) {
	for _, f := range slices.Concat(rowOf(50), largeFracs()) {
		var want []int
		first, second := f.Den, f.Num
		for second != 0 {
			want = append(want, first/second)
			first, second = second, first%second
		}
		if got, e := yard.Quotients(f); e != api.OK || !slices.Equal(got, want) {
			t.Fatalf("Quotients(%v) = %v, %d, want %v", f, got, e, want)
		}
		if g, e := yard.Fold(want); e != api.OK || g != f {
			t.Fatalf("Fold(%v) = %v, %d, want %v", want, g, e, f)
		}
	}
}

// P3.3: Fold of all short lists of small quotients, and of lists with a great Den.
func TestFoldByDefinition(t *testing.T) {
	lists := [][]int{nil}
	for range 5 {
		var longer [][]int
		for _, list := range lists {
			for quotient := 1; quotient <= 4; quotient++ {
				longer = append(longer, append(slices.Clone(list), quotient))
			}
		}
		for _, list := range longer {
			if len(list) == 1 || list[len(list)-1] > 1 {
				checkFold(t, list)
			}
		}
		lists = longer
	}
	for _, quotients := range [][]int{
		{1000000}, {1, 999999}, {1, 1000000}, {2, 499999}, {2, 500000}, {3, 333333}, {3, 333334}, {999999, 1000000},
		{1000000, 2}, {999999, 2}, {499999, 2}, {500000, 2}, {1, 1, 499999}, {1, 1, 500000}, {1000, 1000}, {999, 1001},
		{1000000, 1000000}, {1, 1, 1, 1000000}, {1, 1000000, 1, 2}, {2, 3, 5, 7, 11, 13, 17}, {2, 3, 5, 7, 11, 13, 19, 2},
	} {
		checkFold(t, quotients)
	}
}

// P3.3: no quotients make 0/1, and a 1 alone makes 1/1.
func TestSmallestFolds(t *testing.T) {
	checkFold(t, nil)
	checkFold(t, []int{})
	checkFold(t, []int{1})
	if list, e := yard.Quotients(of(0, 1)); e != api.OK || len(list) != 0 {
		t.Errorf("Quotients(0/1) = %v, %d", list, e)
	}
	if f, e := yard.Fold(nil); e != api.OK || f != of(0, 1) {
		t.Errorf("Fold of nothing = %v, %d", f, e)
	}
	if f, e := yard.Fold([]int{1}); e != api.OK || f != of(1, 1) {
		t.Errorf("Fold of 1 = %v, %d", f, e)
	}
}

// repeated returns a list of n times the number, and last.
func repeated(n, number, last int) []int {
	return append(slices.Repeat([]int{number}, n), last)
}

// P3.3: lists of up to 40 quotients, most of which have a Den that is too great.
func TestLongFolds(t *testing.T) {
	for n := range 40 {
		for _, number := range []int{1, 2, 3, 1000, 1000000} {
			checkFold(t, repeated(n, number, 2))
			checkFold(t, repeated(n, number, 1000000))
		}
	}
	for number := 1; number < 1000000; number += 333 { // sums that leave the range of int may return to it
		checkFold(t, repeated(39, number, 2))
	}
}

// P3.3: more than 40 quotients, one out of range, or a last 1 are ErrArg, even if the Den is too great as well.
func TestNoQuotients(t *testing.T) {
	list := [][]int{
		{1, 1}, {2, 1}, {1000000, 1}, {2, 3, 1}, repeated(39, 1, 1), repeated(39, 1000000, 1),
		repeated(40, 1, 2), repeated(40, 2, 2), repeated(40, 1000000, 2), repeated(41, 1, 1), make([]int, 40), make([]int, 1<<20),
		slices.Repeat([]int{1}, 1<<20),
	}
	for _, number := range []int{0, -1, -2, 1000001, 1 << 32, 1<<32 + 2, math.MinInt, math.MaxInt} {
		list = append(list, []int{number}, []int{number, 2}, []int{2, number}, []int{2, number, 2},
			append([]int{number}, repeated(38, 1000000, 2)...), repeated(39, 1000000, number))
	}
	for _, quotients := range list {
		if f, e := yard.Fold(quotients); e != api.ErrArg || f != (api.Frac{}) {
			t.Errorf("Fold(%.200v) = %v, %d", quotients, f, e)
		}
	}
}
