package shuffle_test

import (
	"iter"
	"math/big"
	"math/rand/v2"
	"slices"
	"testing"

	"galloon/api"
)

// lists visits all lists of n numbers from low to high.
func lists(n, low, high int) iter.Seq[[]int] {
	return func(yield func([]int) bool) {
		list := slices.Repeat([]int{low}, n)
		for {
			if !yield(slices.Clone(list)) {
				return
			}
			at := 0
			for at < n && list[at] == high {
				list[at] = low
				at++
			}
			if at == n {
				return
			}
			list[at]++
		}
	}
}

// random returns n random numbers from 0 to m - 1.
func random(r *rand.Rand, n, m int) []int {
	list := make([]int, n)
	for i := range list {
		list[i] = r.IntN(m)
	}
	return list
}

// polynomials returns polynomials for m: short ones, the longest ones, and random ones.
func polynomials(m int) [][]int {
	r := rand.New(rand.NewPCG(uint64(m), 6))
	list := [][]int{nil, {}, {1}, {0, 1}, {m - 1, m - 1}, {0, 0, 1}, {0, m - 1, 0, 1}, slices.Repeat([]int{m - 1}, 12), append(make([]int, 11), 1), make([]int, 12)}
	for n := range api.MaxTerms + 1 {
		list = append(list, random(r, n, m), random(r, n, m))
	}
	return list
}

// functionOf returns the function of a polynomial, by its definition.
func functionOf(m int, polynomial []int) []int {
	return sums(m, polynomial, func(x, i int) *big.Int {
		return new(big.Int).Exp(big.NewInt(int64(x)), big.NewInt(int64(i)), nil)
	})
}

// functionOfForm returns the function with these numbers as its form, by its definition.
func functionOfForm(m int, form []int) []int {
	return sums(m, form, func(x, i int) *big.Int {
		product := big.NewInt(1)
		for k := range i {
			product.Mul(product, big.NewInt(int64(x-k)))
		}
		return product
	})
}

// sums returns, for each x, the remainder of the sum of the numbers times the values at x.
func sums(m int, numbers []int, value func(x, i int) *big.Int) []int {
	var list []int
	for x := range m {
		sum := new(big.Int)
		for i, number := range numbers {
			v := value(x, i)
			sum.Add(sum, v.Mul(v, big.NewInt(int64(number))))
		}
		list = append(list, int(sum.Mod(sum, big.NewInt(int64(m))).Int64()))
	}
	return list
}

// limit returns m divided by the greatest common divisor of m and 1 2 ... i. From m on, the product is a multiple of m.
func limit(m, i int) int {
	i = min(i, m)
	return m / int(new(big.Int).GCD(nil, nil, big.NewInt(int64(m)), new(big.Int).MulRange(1, int64(i))).Int64())
}

// degreeOf returns the smallest n for which m divides 1 2 ... n.
func degreeOf(m int) int {
	n := 0
	for limit(m, n) > 1 {
		n++
	}
	return n
}

// isForm tells whether a list is the form of a function, by the definition.
func isForm(m int, list []int) bool {
	if len(list) > 0 && list[len(list)-1] == 0 {
		return false
	}
	for i, number := range list {
		if number < 0 || number >= limit(m, i) {
			return false
		}
	}
	return true
}

// randomForm returns a random form with n numbers, or with fewer if some have to be left out.
func randomForm(r *rand.Rand, m, n int) []int {
	var form []int
	for i := range n {
		form = append(form, r.IntN(limit(m, i)))
	}
	for len(form) > 0 && form[len(form)-1] == 0 {
		form = form[:len(form)-1]
	}
	return form
}

// key returns a text that stands for a function.
func key(function []int) string {
	text := make([]byte, len(function))
	for i, value := range function {
		text[i] = byte(value)
	}
	return string(text)
}

// polynomialFunctions returns all polynomial functions for m: the sums of multiples of the functions of all powers.
func polynomialFunctions(m int) map[string][]int {
	zero := make([]int, m)
	all := map[string][]int{key(zero): zero}
	for i := range 2 * m {
		power := functionOf(m, append(make([]int, i), 1))
		if all[key(power)] != nil {
			continue
		}
		next := map[string][]int{}
		for _, function := range all {
			for times := range m {
				sum := make([]int, m)
				for x := range m {
					sum[x] = (function[x] + times*power[x]) % m
				}
				next[key(sum)] = sum
			}
		}
		all = next
	}
	return all
}

// arePairwiseDifferent tells whether a function is a permutation.
func arePairwiseDifferent(function []int) bool {
	sorted := slices.Sorted(slices.Values(function))
	return len(slices.Compact(sorted)) == len(function)
}

// permutations returns permutations for m: all of them if m is small, and random ones otherwise.
func permutations(m int) [][]int {
	var all [][]int
	if m <= 5 {
		for function := range lists(m, 0, m-1) {
			if arePairwiseDifferent(function) {
				all = append(all, function)
			}
		}
		return all
	}
	r := rand.New(rand.NewPCG(uint64(m), 62))
	for range 20 {
		all = append(all, r.Perm(m))
	}
	return all
}

// applied returns g after f.
func applied(f, g []int) []int {
	var list []int
	for _, value := range f {
		list = append(list, g[value])
	}
	return list
}

// wantList checks a result that is a list.
func wantList(t *testing.T, name string, m int, argument any, got []int, e api.Errno, want []int, errno api.Errno) {
	t.Helper()
	if e != errno || !slices.Equal(got, want) {
		t.Fatalf("%s(%d, %v) = %v, %d, want %v, %d", name, m, argument, got, e, want, errno)
	}
}

// wantNumber checks a result that is a number.
func wantNumber(t *testing.T, name string, m int, argument any, got int, e api.Errno, want int, errno api.Errno) {
	t.Helper()
	if e != errno || got != want {
		t.Fatalf("%s(%d, %v) = %d, %d, want %d, %d", name, m, argument, got, e, want, errno)
	}
}

// moduli visits all moduli.
func moduli(yield func(int) bool) {
	for m := 2; m <= 64; m++ {
		if !yield(m) {
			return
		}
	}
}
