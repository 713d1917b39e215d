package yard_test

import (
	"math/big"
	"slices"
	"testing"

	"galloon/api"
	"galloon/yard"
)

// toothOf returns s(x) for x = num/den.
func toothOf(num, den int) *big.Rat {
	if num%den == 0 {
		return new(big.Rat)
	}
	x := big.NewRat(int64(num), int64(den))
	x.Sub(x, big.NewRat(int64(num/den), 1))
	return x.Sub(x, big.NewRat(1, 2))
}

func sawOf(f api.Frac) *big.Rat {
	sum := new(big.Rat)
	for i := 1; i < f.Den; i++ {
		product := toothOf(i, f.Den)
		sum.Add(sum, product.Mul(product, toothOf(f.Num*i, f.Den)))
	}
	return sum
}

func checkSaw(t *testing.T, f api.Frac) {
	t.Helper()
	want := sawOf(f)
	a, b, e := yard.Saw(f)
	if e != api.OK || int64(a) != want.Num().Int64() || int64(b) != want.Denom().Int64() {
		t.Fatalf("Saw(%v) = %d, %d, %d, want %v", f, a, b, e, want)
	}
}

// P3.4: Saw of all small fractions, and of some with Dens up to MaxSaw.
func TestSawByDefinition(t *testing.T) {
	for _, f := range rowOf(35) {
		checkSaw(t, f)
	}
	for _, f := range []api.Frac{
		of(1, 997), of(2, 997), of(500, 997), of(996, 997), of(1, 998), of(375, 998), of(998, 999), of(4, 999), of(610, 987),
		of(1, 1000), of(3, 1000), of(333, 1000), of(501, 1000), of(999, 1000),
	} {
		checkSaw(t, f)
	}
}

// P3.4: ends and signs: a saw is in lowest terms, and its divisor is at least 1.
func TestEdgesOfSaws(t *testing.T) {
	for f, want := range map[api.Frac][2]int{
		of(0, 1): {0, 1}, of(1, 1): {0, 1}, of(1, 2): {0, 1}, of(1, 3): {1, 18}, of(2, 3): {-1, 18}, of(1, 4): {1, 8}, of(3, 4): {-1, 8},
		of(1, 5): {1, 5}, of(2, 5): {0, 1}, of(3, 5): {0, 1}, of(4, 5): {-1, 5}, of(5, 26): {0, 1}, of(1, 1000): {166167, 2000},
	} {
		if a, b, e := yard.Saw(f); e != api.OK || [2]int{a, b} != want {
			t.Errorf("Saw(%v) = %d, %d, %d, want %v", f, a, b, e, want)
		}
	}
}

// P3.4: a Den greater than MaxSaw.
func TestNoSaws(t *testing.T) {
	for _, f := range []api.Frac{of(1, 1001), of(1000, 1001), of(500, 1001), of(1, 2000), of(1, 1000000), of(999999, 1000000)} {
		if a, b, e := yard.Saw(f); e != api.ErrArg || a != 0 || b != 0 {
			t.Errorf("Saw(%v) = %d, %d, %d", f, a, b, e)
		}
	}
}

// P3.5: 12 h k times the sum of the saws of h/k and r/h is h h + k k + 1 - 3 h k.
func TestSumsOfSaws(t *testing.T) {
	list := append(slices.Clone(rowOf(60)), of(377, 610), of(1, 1000), of(999, 1000), of(389, 991), of(701, 1000))
	for _, f := range list {
		h, k := f.Num, f.Den
		if h == 0 || h == k {
			continue
		}
		r := of(k%h, h)
		if h == 1 {
			r = of(0, 1)
		}
		a, b, e := yard.Saw(f)
		c, d, x := yard.Saw(r)
		sum := new(big.Rat).Add(big.NewRat(int64(a), int64(b)), big.NewRat(int64(c), int64(d)))
		sum.Mul(sum, big.NewRat(int64(12*h*k), 1))
		if e != api.OK || x != api.OK || sum.Cmp(big.NewRat(int64(h*h+k*k+1-3*h*k), 1)) != 0 {
			t.Errorf("Saw(%v) = %d/%d, Saw(%v) = %d/%d", f, a, b, r, c, d)
		}
	}
}

// P3.5: the saws of a fraction and of 1 minus it add up to 0.
func TestOppositeSaws(t *testing.T) {
	for _, f := range slices.Concat(rowOf(70), []api.Frac{of(123, 1000), of(1, 999), of(500, 999)}) {
		a, b, e := yard.Saw(f)
		c, d, x := yard.Saw(of(f.Den-f.Num, f.Den))
		if e != api.OK || x != api.OK || a != -c || b != d {
			t.Errorf("Saw(%v) = %d/%d, but that of 1 minus it is %d/%d", f, a, b, c, d)
		}
	}
}
