package buttons_test

import (
	"math"
	"slices"
	"testing"

	"galloon/api"
	"galloon/buttons"
)

// P2.1, P3 and P4: Best returns the first of all assignments, and prices that prove it.
func TestBestByDefinition(t *testing.T) {
	for _, costs := range slices.Concat(smallCosts(), allCosts(3, -1, 0, 2), largerCosts(7)) {
		want := ordered(costs)[0]
		l, u, v, e := buttons.Best(costs)
		if e != api.OK || !slices.Equal(l, want) || !proves(costs, l, u, v) {
			t.Fatalf("Best(%v) = %v, %v, %v, %d, want %v", costs, l, u, v, e, want)
		}
		if e := buttons.Check(costs, l, u, v); e != api.OK {
			t.Fatalf("Check(%v, %v, %v, %v) = %d", costs, l, u, v, e)
		}
	}
}

// P2.1: of several cheapest assignments the lexicographically smallest one is the first.
func TestBestOfEquals(t *testing.T) {
	for _, c := range []struct {
		costs [][]int
		want  []int
	}{
		{[][]int{{5}}, []int{0}},
		{[][]int{{-1000}}, []int{0}},
		{[][]int{{1, 2}, {3, 5}}, []int{1, 0}},
		{[][]int{{1, 2}, {3, 4}}, []int{0, 1}},
		{[][]int{{0, 0, 0}, {0, 0, 0}, {0, 0, 0}}, []int{0, 1, 2}},
		{[][]int{{1, 0, 0}, {0, 0, 0}, {0, 0, 0}}, []int{1, 0, 2}},
		{[][]int{{1, 1, 0}, {0, 0, 0}, {0, 0, 0}}, []int{2, 0, 1}},
		{[][]int{{4, 1, 3}, {2, 0, 5}, {3, 2, 2}}, []int{1, 0, 2}},
	} {
		if l, _, _, e := buttons.Best(c.costs); e != api.OK || !slices.Equal(l, c.want) {
			t.Errorf("Best(%v) = %v, %d, want %v", c.costs, l, e, c.want)
		}
	}
}

// P2.1: Check tells right prices from wrong ones, for all assignments of two buttons, and lists that are none.
func TestCheckByDefinition(t *testing.T) {
	lists := [][]int{{0, 1}, {1, 0}, {0, 0}, {1, 1}, {0, 2}, {0}, {0, 1, 2}}
	var prices [][]int
	for p := -3; p <= 3; p++ {
		for q := -3; q <= 3; q++ {
			prices = append(prices, []int{p, q})
		}
	}
	for _, costs := range [][][]int{{{1, 2}, {3, 5}}, {{0, 0}, {0, 0}}, {{-1, 2}, {0, 3}}, {{1, -2}, {-2, 1}}} {
		for _, l := range lists {
			for _, u := range prices {
				for _, v := range prices {
					if e := buttons.Check(costs, l, u, v); e != answer(proves(costs, l, u, v)) {
						t.Fatalf("Check(%v, %v, %v, %v) = %d", costs, l, u, v, e)
					}
				}
			}
		}
	}
}

// P2.1: prices prove every cheapest assignment, and no other one.
func TestCheckOfAllAssignments(t *testing.T) {
	for _, costs := range slices.Concat(smallCosts(), largerCosts(5)) {
		best, u, v, _ := buttons.Best(costs)
		for _, l := range permutations(len(costs)) {
			want := answer(totalOf(costs, l) == totalOf(costs, best))
			if e := buttons.Check(costs, l, u, v); e != want {
				t.Fatalf("Check(%v, %v, %v, %v) = %d, want %d", costs, l, u, v, e, want)
			}
		}
		for _, l := range noAssignments(len(costs)) {
			if e := buttons.Check(costs, l, u, v); e != api.ErrAnswer {
				t.Fatalf("Check(%v, %v, %v, %v) = %d", costs, l, u, v, e)
			}
		}
	}
}

// P2.1: a price that is changed, added or left out proves nothing.
func TestCheckOfChangedPrices(t *testing.T) {
	for _, costs := range largerCosts(7) {
		l, u, v, _ := buttons.Best(costs)
		for i := range u {
			for _, change := range []int{-1, 1, 1 << 20, -1 << 20, math.MinInt, math.MaxInt} {
				changed := slices.Clone(u)
				changed[i] += change
				if e := buttons.Check(costs, l, changed, v); e != api.ErrAnswer {
					t.Errorf("Check(%v, %v, %v, %v) = %d", costs, l, changed, v, e)
				}
				changed = slices.Clone(v)
				changed[i] += change
				if e := buttons.Check(costs, l, u, changed); e != api.ErrAnswer {
					t.Errorf("Check(%v, %v, %v, %v) = %d", costs, l, u, changed, e)
				}
			}
		}
		n := len(costs)
		for _, wrong := range [][]int{nil, {}, u[:n-1], append(slices.Clone(u), 0), make([]int, 1<<16)} {
			if e := buttons.Check(costs, l, wrong, v); e != api.ErrAnswer {
				t.Errorf("Check(%v, %v, %v, %v) = %d", costs, l, wrong, v, e)
			}
		}
		for _, wrong := range [][]int{nil, {}, v[:n-1], append(slices.Clone(v), 0), make([]int, 1<<16)} {
			if e := buttons.Check(costs, l, u, wrong); e != api.ErrAnswer {
				t.Errorf("Check(%v, %v, %v, %v) = %d", costs, l, u, wrong, e)
			}
		}
	}
}

// P2.1: prices from -10^6 to 10^6, and one beyond; and such as leave the range of int together.
func TestRangeOfPrices(t *testing.T) {
	const most = 1000000
	zero := [][]int{{0, 0}, {0, 0}}
	for _, c := range []struct {
		costs [][]int
		u, v  []int
		want  api.Errno
	}{
		{[][]int{{0}}, []int{most}, []int{-most}, api.OK},
		{[][]int{{0}}, []int{-most}, []int{most}, api.OK},
		{[][]int{{0}}, []int{most + 1}, []int{-most - 1}, api.ErrAnswer},
		{[][]int{{0}}, []int{-most - 1}, []int{most + 1}, api.ErrAnswer},
		{[][]int{{1}}, []int{most + 1}, []int{-most}, api.ErrAnswer},
		{[][]int{{1}}, []int{-most}, []int{most + 1}, api.ErrAnswer},
		{[][]int{{-1}}, []int{most}, []int{-most - 1}, api.ErrAnswer},
		{[][]int{{-1}}, []int{-most - 1}, []int{most}, api.ErrAnswer},
		{[][]int{{1}}, []int{most}, []int{1 - most}, api.OK},
		{[][]int{{1}}, []int{most}, []int{-most}, api.ErrAnswer},
		{zero, []int{most, most}, []int{-most, -most}, api.OK},
		{zero, []int{most, most}, []int{-most, -most - 1}, api.ErrAnswer},
		{zero, []int{math.MinInt, math.MinInt}, []int{0, 0}, api.ErrAnswer},
		{zero, []int{0, 0}, []int{math.MinInt, math.MinInt}, api.ErrAnswer},
		{zero, []int{math.MaxInt, math.MaxInt}, []int{1, 1}, api.ErrAnswer},
		{zero, []int{-1 << 62, -1 << 62}, []int{-1 << 62, -1 << 62}, api.ErrAnswer},
		{zero, []int{1 << 62, 1 << 62}, []int{1 << 62, 1 << 62}, api.ErrAnswer},
	} {
		l := permutations(len(c.costs))[0]
		if e := buttons.Check(c.costs, l, c.u, c.v); e != c.want {
			t.Errorf("Check(%v, %v, %v, %v) = %d, want %d", c.costs, l, c.u, c.v, e, c.want)
		}
	}
}

// P2.1: the right sum is not enough, if a pair is dearer than its cost; nor are prices below all costs.
func TestPricesOfPairs(t *testing.T) {
	costs := [][]int{{1, 2}, {3, 5}}
	for _, c := range []struct {
		u, v []int
		want api.Errno
	}{
		{[]int{1, 3}, []int{0, 1}, api.OK},
		{[]int{2, 3}, []int{0, 0}, api.ErrAnswer},
		{[]int{0, 3}, []int{1, 1}, api.ErrAnswer},
		{[]int{0, 3}, []int{0, 2}, api.OK},
		{[]int{-1, 3}, []int{0, 3}, api.ErrAnswer},
		{[]int{1, 3}, []int{0, 0}, api.ErrAnswer},
		{[]int{0, 0}, []int{0, 0}, api.ErrAnswer},
	} {
		if e := buttons.Check(costs, []int{1, 0}, c.u, c.v); e != c.want {
			t.Errorf("Check(%v, %v) = %d, want %d", c.u, c.v, e, c.want)
		}
	}
}

// P2.1: the total of every assignment, and of nothing else.
func TestTotalByDefinition(t *testing.T) {
	for _, costs := range slices.Concat(smallCosts(), largerCosts(6)) {
		for _, l := range permutations(len(costs)) {
			if n, e := buttons.Total(costs, l); e != api.OK || n != totalOf(costs, l) {
				t.Fatalf("Total(%v, %v) = %d, %d", costs, l, n, e)
			}
		}
	}
	for n := 1; n <= 7; n++ {
		costs := costsBy(n, func(i, j int) int { return 1000 })
		if total, e := buttons.Total(costs, permutations(n)[0]); e != api.OK || total != 1000*n {
			t.Errorf("Total(%v) = %d, %d", costs, total, e)
		}
		for _, l := range noAssignments(n) {
			if total, e := buttons.Total(costs, l); e != api.ErrArg || total != 0 {
				t.Errorf("Total(%v, %v) = %d, %d", costs, l, total, e)
			}
		}
	}
}
