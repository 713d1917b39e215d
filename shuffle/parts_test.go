package shuffle_test

import (
	"math"
	"math/big"
	"slices"
	"testing"

	"galloon/api"
	"galloon/shuffle"
)

// powers returns the prime powers of a modulus, by trying all primes and exponents.
func powers(m int) [][2]int {
	var parts [][2]int
	for p := 2; p <= m; p++ {
		if !big.NewInt(int64(p)).ProbablyPrime(10) {
			continue
		}
		exponent := 0
		for power := p; m%power == 0; power *= p {
			exponent++
		}
		if exponent > 0 {
			parts = append(parts, [2]int{p, exponent})
		}
	}
	return parts
}

// power returns the prime power of a pair.
func power(part [2]int) int {
	return int(math.Pow(float64(part[0]), float64(part[1])))
}

// P6.3 and P6.5: Split, for all moduli; a polynomial is a permutation exactly if it is one for each of the prime powers.
func TestSplit(t *testing.T) {
	for m := range moduli {
		for _, polynomial := range polynomials(m) {
			parts, functions, e := shuffle.Split(m, polynomial)
			if e != api.OK || !slices.Equal(parts, powers(m)) || len(functions) != len(parts) {
				t.Fatalf("Split(%d, %v) = %v, %v, %d", m, polynomial, parts, functions, e)
			}
			arePermutations := true
			for i, part := range parts {
				q := power(part)
				var reduced []int
				for _, coefficient := range polynomial {
					reduced = append(reduced, coefficient%q)
				}
				if !slices.Equal(functions[i], functionOf(q, reduced)) {
					t.Fatalf("Split(%d, %v) = %v, %v", m, polynomial, parts, functions)
				}
				x, _, e := shuffle.Permutes(q, reduced)
				if e != api.OK {
					t.Fatalf("Permutes(%d, %v): %d", q, reduced, e)
				}
				arePermutations = arePermutations && x < 0
			}
			if x, _, _ := shuffle.Permutes(m, polynomial); (x < 0) != arePermutations {
				t.Fatalf("Permutes(%d, %v) = %d", m, polynomial, x)
			}
		}
	}
}

// P6.3: what Split returns for some moduli.
func TestKnownParts(t *testing.T) {
	for m, want := range map[int][][2]int{
		2: {{2, 1}}, 4: {{2, 2}}, 6: {{2, 1}, {3, 1}}, 12: {{2, 2}, {3, 1}}, 18: {{2, 1}, {3, 2}}, 30: {{2, 1}, {3, 1}, {5, 1}}, 35: {{5, 1}, {7, 1}}, 36: {{2, 2}, {3, 2}},
		49: {{7, 2}}, 60: {{2, 2}, {3, 1}, {5, 1}}, 61: {{61, 1}}, 62: {{2, 1}, {31, 1}}, 63: {{3, 2}, {7, 1}}, 64: {{2, 6}},
	} {
		if parts, _, e := shuffle.Split(m, nil); e != api.OK || !slices.Equal(parts, want) {
			t.Errorf("Split(%d, nil) = %v, %d", m, parts, e)
		}
	}
	parts, functions, e := shuffle.Split(6, []int{0, 1, 1})
	if e != api.OK || !slices.Equal(parts, [][2]int{{2, 1}, {3, 1}}) || len(functions) != 2 || !slices.Equal(functions[0], []int{0, 0}) || !slices.Equal(functions[1], []int{0, 2, 0}) {
		t.Errorf("Split = %v, %v, %d", parts, functions, e)
	}
}

// P6.3: Joined, for all numbers less than all moduli, and for all lists with a remainder that is not one.
func TestJoined(t *testing.T) {
	for m := range moduli {
		parts := powers(m)
		for n := range m {
			var remainders []int
			for _, part := range parts {
				remainders = append(remainders, n%power(part))
			}
			wantJoined(t, parts, remainders, n, api.OK)
			for i, part := range parts {
				for _, number := range []int{power(part), power(part) + 1, n%power(part) + power(part), n%power(part) - power(part), m, -1, math.MinInt, math.MaxInt} {
					wrong := slices.Clone(remainders)
					wrong[i] = number
					wantJoined(t, parts, wrong, 0, api.ErrArg)
				}
			}
			for _, wrong := range [][]int{nil, {}, remainders[1:], append(slices.Clone(remainders), 0), append([]int{0}, remainders...), make([]int, 1<<16)} {
				wantJoined(t, parts, wrong, 0, api.ErrArg)
			}
		}
	}
	wantJoined(t, [][2]int{{2, 2}, {3, 1}}, []int{1, 2}, 5, api.OK)
	wantJoined(t, [][2]int{{2, 2}, {3, 1}, {5, 1}}, []int{3, 2, 4}, 59, api.OK)
}

// wantJoined checks Joined.
func wantJoined(t *testing.T, parts [][2]int, remainders []int, want int, errno api.Errno) {
	t.Helper()
	if n, e := shuffle.Joined(parts, remainders); n != want || e != errno {
		t.Fatalf("Joined(%.200v, %.200v) = %d, %d, want %d, %d", parts, remainders, n, e, want, errno)
	}
}

// P6.3: Joined of parts that are not prime powers, not in ascending order, of equal primes, or of no modulus.
func TestNoParts(t *testing.T) {
	for _, parts := range [][][2]int{
		nil, {}, {{}}, {{4, 1}}, {{6, 1}}, {{1, 1}}, {{0, 1}}, {{-2, 1}}, {{-2, 2}}, {{9, 1}}, {{2, 0}}, {{2, -1}}, {{3, 0}}, {{2, 7}}, {{67, 1}}, {{3, 4}}, {{5, 3}}, {{11, 2}}, {{65, 1}}, {{64, 1}}, {{63, 1}},
		{{2, 1}, {2, 1}}, {{3, 1}, {2, 1}}, {{2, 1}, {4, 1}}, {{2, 1}, {9, 1}}, {{2, 1}, {3, 0}}, {{2, 0}, {3, 1}}, {{2, 3}, {3, 2}}, {{2, 1}, {37, 1}}, {{2, 1}, {3, 1}, {5, 1}, {7, 1}},
		{{5, 1}, {2, 1}, {3, 1}}, {{2, 1}, {3, 1}, {3, 1}}, {{1, 1}, {2, 1}}, {{2, 1}, {1, 1}}, {{1, 5}, {3, 1}}, {{0, 0}}, {{0, 0}, {2, 1}}, {{1, 0}, {2, 1}}, {{2, 1}, {0, 0}},
		{{2, 62}}, {{2, 63}}, {{2, 64}}, {{2, 65}}, {{2, math.MaxInt}}, {{3, 1<<62 + 1}}, {{math.MaxInt, 1}}, {{math.MinInt, math.MinInt}}, {{math.MaxInt, math.MaxInt}}, {{1, math.MaxInt}}, {{-1, math.MaxInt}},
		{{2, math.MinInt}}, {{2, 1}, {math.MaxInt - 1, 2}}, {{2, 1}, {3, math.MaxInt}}, slices.Repeat([][2]int{{2, 1}}, 1<<18), make([][2]int, 1<<18), slices.Repeat([][2]int{{1, 1}}, 100),
	} {
		for _, remainders := range [][]int{make([]int, len(parts)), nil, {0}, {0, 0}, {1}, {1, 1}, {-1}, {math.MaxInt, math.MinInt}} {
			wantJoined(t, parts, remainders, 0, api.ErrArg)
		}
	}
	for p := -70; p <= 70; p++ {
		for exponent := -2; exponent <= 8; exponent++ {
			part := [2]int{p, exponent}
			_, e := shuffle.Joined([][2]int{part}, []int{0})
			isPart := p >= 2 && big.NewInt(int64(p)).ProbablyPrime(10) && exponent >= 1 && power(part) <= 64
			if (e == api.OK) != isPart || e != api.OK && e != api.ErrArg {
				t.Errorf("Joined(%v, 0): %d", part, e)
			}
		}
	}
}
