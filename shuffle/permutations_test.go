package shuffle_test

import (
	"slices"
	"testing"

	"galloon/api"
	"galloon/shuffle"
)

// wantPermutes checks Permutes for a polynomial.
func wantPermutes(t *testing.T, m int, polynomial []int) {
	t.Helper()
	function := functionOf(m, polynomial)
	wantX, wantY := -1, -1
	for x := m - 1; x >= 0; x-- {
		for y := m - 1; y > x; y-- {
			if function[x] == function[y] {
				wantX, wantY = x, y
			}
		}
	}
	if x, y, e := shuffle.Permutes(m, polynomial); x != wantX || y != wantY || e != api.OK {
		t.Fatalf("Permutes(%d, %v) = %d, %d, %d, want %d, %d", m, polynomial, x, y, e, wantX, wantY)
	}
}

// P6.2: Permutes returns the smallest two points with equal values, or -1, -1.
func TestPermutes(t *testing.T) {
	for m := range moduli {
		for _, polynomial := range polynomials(m) {
			wantPermutes(t, m, polynomial)
		}
		for a := range m {
			wantPermutes(t, m, []int{1, a})
			wantPermutes(t, m, []int{0, 1, a})
		}
	}
	for m := 2; m <= 6; m++ {
		for polynomial := range lists(4, 0, m-1) {
			wantPermutes(t, m, polynomial)
		}
	}
	for _, c := range []struct {
		m          int
		polynomial []int
		x, y       int
	}{
		{4, []int{0, 1, 2}, -1, -1}, {4, []int{0, 0, 1}, 0, 2}, {64, []int{5}, 0, 1}, {2, nil, 0, 1}, {64, []int{63, 63}, -1, -1},
		{5, []int{0, 0, 1}, 1, 4}, {7, []int{0, 0, 1}, 1, 6}, {6, []int{0, 1, 1}, 0, 2}, {9, []int{0, 3, 1}, 0, 3}, {7, []int{0, 0, 0, 1}, 1, 2},
	} {
		if x, y, e := shuffle.Permutes(c.m, c.polynomial); x != c.x || y != c.y || e != api.OK {
			t.Errorf("Permutes(%d, %v) = %d, %d, %d", c.m, c.polynomial, x, y, e)
		}
	}
}

// orderOf returns how often a permutation must be applied to give every point back.
func orderOf(permutation []int) int {
	identity := slices.Sorted(slices.Values(permutation))
	order := 1
	for power := permutation; !slices.Equal(power, identity); power = applied(power, permutation) {
		order++
	}
	return order
}

// cyclesOf returns the lengths of the cycles: a length is that of as many points as it says.
func cyclesOf(permutation []int) []int {
	points := map[int]int{}
	for x := range permutation {
		length := 1
		for y := permutation[x]; y != x; y = permutation[y] {
			length++
		}
		points[length]++
	}
	var lengths []int
	for length, count := range points {
		lengths = append(lengths, slices.Repeat([]int{length}, count/length)...)
	}
	slices.Sort(lengths)
	return lengths
}

// P6.2 and P6.5: Inverse, Order and Cycles of permutations.
func TestPermutationsByDefinition(t *testing.T) {
	for m := range moduli {
		for _, permutation := range permutations(m) {
			inverse, e := shuffle.Inverse(m, permutation)
			identity := slices.Sorted(slices.Values(permutation))
			if e != api.OK || !slices.Equal(applied(permutation, inverse), identity) || !slices.Equal(applied(inverse, permutation), identity) {
				t.Fatalf("Inverse(%d, %v) = %v, %d", m, permutation, inverse, e)
			}
			cycles, e := shuffle.Cycles(m, permutation)
			wantList(t, "Cycles", m, permutation, cycles, e, cyclesOf(permutation), api.OK)
			order, e := shuffle.Order(m, permutation)
			wantNumber(t, "Order", m, permutation, order, e, orderOf(permutation), api.OK)
		}
	}
}

// P6.2: permutations whose cycles are known, the one with the greatest order among them.
func TestKnownCycles(t *testing.T) {
	for _, c := range []struct {
		lengths []int
		order   int
	}{
		{[]int{1, 1}, 1}, {[]int{2}, 2}, {[]int{3}, 3}, {[]int{1, 1, 2}, 2}, {[]int{2, 2}, 2}, {[]int{2, 3}, 6}, {[]int{4, 6}, 12}, {[]int{2, 4, 8}, 8},
		{[]int{64}, 64}, {[]int{32, 32}, 32}, {[]int{1, 63}, 63}, {slices.Repeat([]int{1}, 64), 1}, {slices.Repeat([]int{2}, 32), 2},
		{[]int{3, 5, 7, 8, 11, 13, 17}, 2042040}, {[]int{6, 10, 14, 15, 19}, 3990}, {[]int{1, 2, 3, 4, 5, 6, 7, 8, 9, 10}, 2520},
	} {
		var permutation []int
		for _, length := range c.lengths {
			begin := len(permutation)
			for i := range length {
				permutation = append(permutation, begin+(i+1)%length)
			}
		}
		m := len(permutation)
		cycles, e := shuffle.Cycles(m, permutation)
		wantList(t, "Cycles", m, permutation, cycles, e, c.lengths, api.OK)
		order, e := shuffle.Order(m, permutation)
		wantNumber(t, "Order", m, permutation, order, e, c.order, api.OK)
	}
}

// P6.2: Inverse, Order and Cycles of functions that are not permutations lead to ErrArg.
func TestNoPermutations(t *testing.T) {
	wantErrArg := func(m int, function []int) {
		t.Helper()
		inverse, e := shuffle.Inverse(m, function)
		wantList(t, "Inverse", m, function, inverse, e, nil, api.ErrArg)
		order, e := shuffle.Order(m, function)
		wantNumber(t, "Order", m, function, order, e, 0, api.ErrArg)
		cycles, e := shuffle.Cycles(m, function)
		wantList(t, "Cycles", m, function, cycles, e, nil, api.ErrArg)
	}
	for m := 2; m <= 5; m++ {
		for function := range lists(m, 0, m-1) {
			if !arePairwiseDifferent(function) {
				wantErrArg(m, function)
			}
		}
	}
	for m := range moduli {
		for i, permutation := range permutations(m) {
			permutation[i%m] = permutation[(i+1)%m]
			wantErrArg(m, permutation)
		}
		wantErrArg(m, make([]int, m))
	}
}

// P6.2: After applies f first, then g.
func TestAfter(t *testing.T) {
	for m := 2; m <= 3; m++ {
		for f := range lists(m, 0, m-1) {
			for g := range lists(m, 0, m-1) {
				l, e := shuffle.After(m, f, g)
				wantList(t, "After", m, [][]int{f, g}, l, e, applied(f, g), api.OK)
			}
		}
	}
	for m := range moduli {
		before := make([]int, m)
		for _, polynomial := range polynomials(m) {
			function := functionOf(m, polynomial)
			l, e := shuffle.After(m, before, function)
			wantList(t, "After", m, [][]int{before, function}, l, e, applied(before, function), api.OK)
			before = function
		}
	}
	l, e := shuffle.After(4, []int{1, 2, 0, 3}, []int{0, 3, 2, 1})
	wantList(t, "After", 4, "1 2 0 3, 0 3 2 1", l, e, []int{3, 2, 0, 1}, api.OK)
}

// P6.5: for a power 2^k, k at least 2, three sums tell whether a polynomial is a permutation.
func TestPermutationsForPowersOfTwo(t *testing.T) {
	count := 0
	for _, m := range []int{4, 8, 16, 32, 64} {
		for polynomial := range lists(6, 0, 3) {
			sums := [2]int{}
			for i, coefficient := range polynomial {
				if i >= 2 {
					sums[i%2] += coefficient
				}
			}
			want := polynomial[1]%2 == 1 && sums[0]%2 == 0 && sums[1]%2 == 0
			if x, _, e := shuffle.Permutes(m, polynomial); (x < 0) != want || e != api.OK {
				t.Fatalf("Permutes(%d, %v) = %d, %d", m, polynomial, x, e)
			}
			if want {
				count++
			}
		}
	}
	if count != 5*4096/8 {
		t.Errorf("%d permutations", count)
	}
}

// The example of the chapter.
func TestExampleOfPermutations(t *testing.T) {
	order, e := shuffle.Order(4, []int{0, 3, 2, 1})
	wantNumber(t, "Order", 4, "0 3 2 1", order, e, 2, api.OK)
	inverse, e := shuffle.Inverse(4, []int{1, 2, 0, 3})
	wantList(t, "Inverse", 4, "1 2 0 3", inverse, e, []int{2, 0, 1, 3}, api.OK)
	cycles, e := shuffle.Cycles(4, []int{0, 3, 2, 1})
	wantList(t, "Cycles", 4, "0 3 2 1", cycles, e, []int{1, 1, 2}, api.OK)
}
