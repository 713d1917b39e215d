package shuffle_test

import (
	"slices"
	"testing"

	"galloon/api"
	"galloon/shuffle"
)

// wantSame checks Same.
func wantSame(t *testing.T, m int, p, q []int) {
	t.Helper()
	f, g := functionOf(m, p), functionOf(m, q)
	want := -1
	for x := m - 1; x >= 0; x-- {
		if f[x] != g[x] {
			want = x
		}
	}
	x, e := shuffle.Same(m, p, q)
	wantNumber(t, "Same", m, [][]int{p, q}, x, e, want, api.OK)
}

// P6.4: Same, for all pairs of short polynomials and small moduli, and for others.
func TestSame(t *testing.T) {
	for m := 2; m <= 4; m++ {
		for p := range lists(3, 0, m-1) {
			for q := range lists(4, 0, m-1) {
				wantSame(t, m, p, q)
			}
		}
	}
	for m := range moduli {
		all := polynomials(m)
		for i, p := range all {
			wantSame(t, m, p, all[(i+1)%len(all)])
			wantSame(t, m, p, p)
			wantSame(t, m, p, slices.Concat(p, make([]int, api.MaxTerms-len(p))))
		}
	}
}

// P6.4: polynomials that differ first at each point: a product that is 0 at all points before it.
func TestFirstDifference(t *testing.T) {
	for m := range moduli {
		for at := range min(degreeOf(m), api.MaxTerms) {
			p := multipliedOut(m, append(make([]int, at), 1))
			x, e := shuffle.Same(m, p, nil)
			wantNumber(t, "Same", m, p, x, e, at, api.OK)
		}
	}
	for _, c := range []struct {
		m    int
		p, q []int
		want int
	}{
		{6, []int{0, 1}, []int{0, 0, 0, 1}, -1}, {2, []int{0, 1}, []int{0, 0, 1}, -1}, {4, []int{0, 1}, []int{0, 0, 1}, 2}, {64, []int{1}, nil, 0}, {64, nil, []int{}, -1},
		{11, []int{0, 1}, []int{0, 0, 0, 0, 0, 0, 0, 0, 0, 0, 0, 1}, -1}, {4, []int{0, 0, 2}, []int{0, 2}, -1}, {5, []int{0, 1}, []int{0, 0, 0, 0, 1}, 2},
	} {
		x, e := shuffle.Same(c.m, c.p, c.q)
		wantNumber(t, "Same", c.m, [][]int{c.p, c.q}, x, e, c.want, api.OK)
	}
}

// wantShifts checks Shifts. The function at x + a is found without the remainder of x + a.
func wantShifts(t *testing.T, m int, polynomial []int) []int {
	t.Helper()
	var want []int
	function := functionOf(m, polynomial)
	twice := slices.Concat(function, function)
	for a := range m {
		holds := true
		for x, value := range function {
			holds = holds && (twice[x+a]-value-a)%m == 0
		}
		if holds {
			want = append(want, a)
		}
	}
	l, e := shuffle.Shifts(m, polynomial)
	wantList(t, "Shifts", m, polynomial, l, e, want, api.OK)
	return l
}

// P6.4: Shifts, for all short polynomials and small moduli, and for others.
func TestShifts(t *testing.T) {
	for m := 2; m <= 6; m++ {
		for polynomial := range lists(4, 0, m-1) {
			wantShifts(t, m, polynomial)
		}
	}
	number := map[int]bool{}
	for m := range moduli {
		for _, polynomial := range polynomials(m) {
			wantShifts(t, m, polynomial)
		}
		for c := range m {
			number[len(wantShifts(t, m, []int{1, 1, c}))] = true
			wantShifts(t, m, []int{0, 1, c, c})
			wantShifts(t, m, []int{0, c})
		}
	}
	if len(number) < 10 {
		t.Errorf("the numbers of shifts are only %v", number)
	}
}

// P6.4: shifts that are known.
func TestKnownShifts(t *testing.T) {
	for _, c := range []struct {
		m          int
		polynomial []int
		want       []int
	}{
		{4, []int{0, 1, 2}, []int{0, 2}}, {4, []int{0, 1}, []int{0, 1, 2, 3}}, {4, []int{3, 1}, []int{0, 1, 2, 3}}, {4, nil, []int{0}}, {5, []int{0, 2}, []int{0}},
		{6, []int{0, 3}, []int{0, 3}}, {6, []int{0, 4}, []int{0, 2, 4}}, {6, []int{0, 0, 0, 1}, []int{0, 1, 2, 3, 4, 5}}, {2, []int{}, []int{0}}, {8, []int{0, 1, 2}, []int{0, 2, 4, 6}}, {9, []int{0, 1, 3}, []int{0, 3, 6}},
	} {
		l, e := shuffle.Shifts(c.m, c.polynomial)
		wantList(t, "Shifts", c.m, c.polynomial, l, e, c.want, api.OK)
	}
}
