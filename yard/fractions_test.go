package yard_test

import (
	"math"
	"math/rand/v2"
	"slices"
	"sort"

	"galloon/api"
)

// The helpers in this file follow the chapter's definitions literally, and share no code with the package.

func of(num, den int) api.Frac {
	return api.Frac{Num: num, Den: den}
}

// hasCommon tells whether two numbers have a common divisor greater than 1.
func hasCommon(a, b int) bool {
	for d := 2; d <= max(a, b); d++ {
		if a%d == 0 && b%d == 0 {
			return true
		}
	}
	return false
}

// less compares values.
func less(f, g api.Frac) bool {
	return f.Num*g.Den < g.Num*f.Den
}

var knownRows = map[int][]api.Frac{}

// rowOf returns the row of n, for any n.
func rowOf(n int) []api.Frac {
	if known := knownRows[n]; known != nil {
		return known
	}
	var row []api.Frac
	for den := 1; den <= n; den++ {
		for num := 0; num <= den; num++ {
			if !hasCommon(num, den) {
				row = append(row, of(num, den))
			}
		}
	}
	sort.Slice(row, func(i, j int) bool { return less(row[i], row[j]) })
	knownRows[n] = row
	return row
}

// lowest returns the fraction in lowest terms.
func lowest(num, den int) api.Frac {
	for d := 2; d <= den; d++ {
		for num%d == 0 && den%d == 0 {
			num, den = num/d, den/d
		}
	}
	return of(num, den)
}

// largeFracs returns valid fractions with Dens up to MaxDen: near 0/1, 1/2 and 1/1, and others.
func largeFracs() []api.Frac {
	list := []api.Frac{
		of(1, 301), of(300, 301), of(150, 301), of(1, 1000), of(1, 999999), of(1, 1000000), of(999999, 1000000),
		of(999998, 999999), of(499999, 999999), of(500000, 999999), of(499999, 1000000), of(333333, 1000000),
		of(333333, 999998), of(317811, 514229), of(514229, 832040), of(832039, 832040), of(2, 999999),
	}
	random := rand.New(rand.NewPCG(5, 6))
	for _, most := range []int{400, 3000, 20000, 1000000} {
		for range 12 {
			den := most - random.IntN(most/2)
			list = append(list, lowest(random.IntN(den+1), den))
		}
	}
	return list
}

// noFracs are fractions that are not valid.
func noFracs() []api.Frac {
	list := []api.Frac{
		{}, of(1, 0), of(0, 2), of(2, 2), of(2, 4), of(3, 6), of(6, 9), of(0, 1000000), of(1000000, 1000000), of(500000, 1000000),
		of(2, 1), of(3, 2), of(1000000, 999999), of(-1, 1), of(-1, 2), of(1, -1), of(1, -2), of(-1, -1), of(-1, -2), of(0, -1),
		of(1, 1000001), of(1000000, 1000001), of(1000001, 1000001), of(0, 1000001),
	}
	for _, number := range []int{math.MinInt, math.MinInt + 1, -1 << 32, 1 << 32, 1<<32 + 1, math.MaxInt - 1, math.MaxInt} {
		list = append(list, of(1, number), of(number, 1), of(number, 7), of(number, 1000000), of(number, number), of(number, math.MaxInt), of(math.MinInt, number))
	}
	return list
}

// noRows are numbers of which there is no row.
func noRows() []int {
	return []int{0, -1, 301, 302, -300, 1000000, 1 << 32, 1<<32 + 5, math.MinInt, math.MaxInt}
}

// treeOf returns all fractions whose paths have at most this number of letters, by these paths.
func treeOf(letters int) map[string]api.Frac {
	tree := map[string]api.Frac{}
	var grow func(path string, low, high api.Frac)
	grow = func(path string, low, high api.Frac) {
		middle := of(low.Num+high.Num, low.Den+high.Den)
		tree[path] = middle
		if len(path) < letters {
			grow(path+"L", low, middle)
			grow(path+"R", middle, high)
		}
	}
	grow("", of(0, 1), of(1, 1))
	return tree
}

// areBeside tells whether f and g stand in the row, one after the other.
func areBeside(row []api.Frac, f, g api.Frac) bool {
	at := slices.Index(row, f)
	return at >= 0 && at+1 < len(row) && row[at+1] == g
}
