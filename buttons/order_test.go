package buttons_test

import (
	"math"
	"slices"
	"testing"

	"galloon/api"
	"galloon/buttons"
)

// P2.2: Item and Index of every assignment.
func TestOrderByDefinition(t *testing.T) {
	for _, costs := range slices.Concat(smallCosts(), largerCosts(5)) {
		for k, want := range ordered(costs) {
			checkPlace(t, costs, k, want)
		}
	}
	for i, costs := range largerCosts(7) {
		list := ordered(costs)
		step := len(list)/7 + 1
		for k := i % step; k < len(list); k += step {
			checkPlace(t, costs, k, list[k])
		}
		checkPlace(t, costs, len(list)-1, list[len(list)-1])
	}
}

func checkPlace(t *testing.T, costs [][]int, k int, want []int) {
	t.Helper()
	if l, e := buttons.Item(costs, k); e != api.OK || !slices.Equal(l, want) {
		t.Fatalf("Item(%v, %d) = %v, %d, want %v", costs, k, l, e, want)
	}
	if n, e := buttons.Index(costs, want); e != api.OK || n != k {
		t.Fatalf("Index(%v, %v) = %d, %d, want %d", costs, want, n, e, k)
	}
}

// P2.2: assignments with the same total are in lexicographic order, whatever the totals are.
func TestOrderOfEquals(t *testing.T) {
	for n := 1; n <= 7; n++ {
		costs := costsBy(n, func(i, j int) int { return -3 * i })
		for k, l := range permutations(n) {
			if k%(n*n) == 0 || k == len(permutations(n))-1 {
				checkPlace(t, costs, k, l)
			}
		}
	}
	costs := [][]int{{0, 0, 1}, {0, 0, 0}, {0, 0, 0}}
	for k, l := range [][]int{{0, 1, 2}, {0, 2, 1}, {1, 0, 2}, {1, 2, 0}, {2, 0, 1}, {2, 1, 0}} {
		checkPlace(t, costs, k, l)
	}
	costs = [][]int{{1, 0, 0}, {0, 0, 0}, {0, 0, 0}}
	for k, l := range [][]int{{1, 0, 2}, {1, 2, 0}, {2, 0, 1}, {2, 1, 0}, {0, 1, 2}, {0, 2, 1}} {
		checkPlace(t, costs, k, l)
	}
}

// P2.2: k from 0 to n! - 1, and nothing else.
func TestRangeOfItems(t *testing.T) {
	all := 1
	for n := 1; n <= 7; n++ {
		all *= n
		costs := costsBy(n, func(i, j int) int { return (i + 2*j) % 5 })
		for _, k := range []int{0, all - 1} {
			if l, e := buttons.Item(costs, k); e != api.OK || !isPermutation(l, n) {
				t.Errorf("Item(%v, %d) = %v, %d", costs, k, l, e)
			}
		}
		for _, k := range []int{-1, all, all + 1, -all, 1 << 32, math.MinInt, math.MaxInt} {
			if l, e := buttons.Item(costs, k); e != api.ErrArg || len(l) != 0 {
				t.Errorf("Item(%v, %d) = %v, %d", costs, k, l, e)
			}
		}
		for _, l := range noAssignments(n) {
			if k, e := buttons.Index(costs, l); e != api.ErrArg || k != 0 {
				t.Errorf("Index(%v, %v) = %d, %d", costs, l, k, e)
			}
		}
	}
}

// P2.2: Within counts the totals up to any number.
func TestWithinByDefinition(t *testing.T) {
	for _, costs := range slices.Concat(smallCosts(), largerCosts(6)) {
		var totals []int
		for _, l := range permutations(len(costs)) {
			totals = append(totals, totalOf(costs, l))
		}
		slices.Sort(totals)
		first, last := totals[0], totals[len(totals)-1]
		for _, most := range []int{math.MinInt, first - 1, first, first + 1, (first + last) / 2, last - 1, last, last + 1, 0, math.MaxInt} {
			want := 0
			for _, total := range totals {
				if total <= most {
					want++
				}
			}
			if n, e := buttons.Within(costs, most); e != api.OK || n != want {
				t.Fatalf("Within(%v, %d) = %d, %d, want %d", costs, most, n, e, want)
			}
		}
	}
	for n, all := 1, 1; n <= 7; n++ {
		all *= n
		costs := costsBy(n, func(i, j int) int { return 1000 })
		for most, want := range map[int]int{1000 * n: all, 1000*n - 1: 0, math.MaxInt: all, math.MinInt: 0} {
			if number, e := buttons.Within(costs, most); e != api.OK || number != want {
				t.Errorf("Within(%v, %d) = %d, %d, want %d", costs, most, number, e, want)
			}
		}
	}
}
