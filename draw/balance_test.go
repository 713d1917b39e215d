package draw_test

import (
	"math/big"
	"slices"
	"testing"

	"galloon/api"
	"galloon/draw"
)

// stepped returns the shares after one step.
func stepped(box api.Box, shares []api.Frac) []api.Frac {
	var next []api.Frac
	for to := range shares {
		sum := new(big.Rat)
		for k, list := range box.Maps {
			chance := big.NewRat(int64(box.Weights[k]), int64(totalOf(box, 1)))
			for state, share := range shares {
				if list[state] == to {
					sum.Add(sum, new(big.Rat).Mul(chance, rat(share)))
				}
			}
		}
		next = append(next, of(int(sum.Num().Int64()), int(sum.Denom().Int64())))
	}
	return next
}

// addUp tells whether shares are valid fractions that are at least 0 and add up to 1.
func addUp(shares []api.Frac) bool {
	sum := new(big.Rat)
	for _, share := range shares {
		if !isValid(share) || share.Num < 0 {
			return false
		}
		sum.Add(sum, rat(share))
	}
	return sum.Cmp(big.NewRat(1, 1)) == 0
}

// P7.3 and P7.6: the balance consists of valid fractions that are at least 0, add up to 1, and are left as they are by
// one step. As there is only one such, this is enough.
func TestBalance(t *testing.T) {
	balances, others := 0, 0
	for box := range boxes {
		shares, e := draw.Balance(box)
		if len(finalOf(box)) > 1 {
			others++
			if len(shares) != 0 || e != api.ErrNone {
				t.Fatalf("Balance(%v) = %v, %d, want the error %d", box, shares, e, api.ErrNone)
			}
			continue
		}
		balances++
		if e != api.OK || len(shares) != states(box) || !addUp(shares) || !slices.Equal(shares, stepped(box, shares)) {
			t.Fatalf("Balance(%v) = %v, %d", box, shares, e)
		}
	}
	if balances < 500 || others < 100 {
		t.Errorf("%d balances, and %d boxes without", balances, others)
	}
}

// P7.3: balances that are known.
func TestKnownBalances(t *testing.T) {
	seventh := of(1, 7)
	for _, c := range []struct {
		box  api.Box
		want []api.Frac
	}{
		{coin(), []api.Frac{of(1, 3), of(2, 3)}}, {walk(), []api.Frac{of(1, 3), of(1, 3), of(1, 3)}}, {swap(), []api.Frac{of(1, 2), of(1, 2)}},
		{boxOf([]int{0}), []api.Frac{of(1, 1)}}, {boxOf([]int{0}, []int{0}, []int{0}), []api.Frac{of(1, 1)}},
		{boxOf([]int{1, 1}), []api.Frac{of(0, 1), of(1, 1)}}, {boxOf([]int{0, 0, 1, 2, 3, 4, 5}), []api.Frac{of(1, 1), of(0, 1), of(0, 1), of(0, 1), of(0, 1), of(0, 1), of(0, 1)}},
		{boxOf([]int{1, 2, 3, 4, 5, 6, 0}), slices.Repeat([]api.Frac{seventh}, 7)},
		{boxOf([]int{1, 2, 0, 0}), []api.Frac{of(1, 3), of(1, 3), of(1, 3), of(0, 1)}},
		{api.Box{Maps: [][]int{{0, 0}, {1, 1}}, Weights: []int{3, 6}}, []api.Frac{of(1, 3), of(2, 3)}},
		{api.Box{Maps: [][]int{{0, 0}, {1, 1}}, Weights: []int{9, 9}}, []api.Frac{of(1, 2), of(1, 2)}},
		{api.Box{Maps: [][]int{{0, 0, 0}, {1, 1, 1}, {2, 2, 2}}, Weights: []int{7, 8, 9}}, []api.Frac{of(7, 24), of(1, 3), of(3, 8)}},
		// Up with 9 of 17, down with 8 of 17: the shares are as the powers of 9/8.
		{api.Box{Maps: [][]int{{1, 2, 3, 4, 5, 6, 6}, {0, 0, 1, 2, 3, 4, 5}}, Weights: []int{9, 8}}, ladder(9, 8, 7)},
		{api.Box{Maps: [][]int{{1, 2, 3, 4, 5, 6, 6}, {0, 0, 1, 2, 3, 4, 5}}, Weights: []int{1, 9}}, ladder(1, 9, 7)},
	} {
		if got, e := draw.Balance(c.box); !slices.Equal(got, c.want) || e != api.OK {
			t.Errorf("Balance(%v) = %v, %d, want %v", c.box, got, e, c.want)
		}
	}
}

// ladder returns n shares, each of which is up/down times the one before it.
func ladder(up, down, n int) []api.Frac {
	numbers := []int{1}
	for range n - 1 {
		for i := range numbers {
			numbers[i] *= down
		}
		last := numbers[len(numbers)-1]
		numbers = append(numbers, last/down*up)
	}
	total := 0
	for _, number := range numbers {
		total += number
	}
	var shares []api.Frac
	for _, number := range numbers {
		shares = append(shares, lowest(number, total))
	}
	return shares
}

// P7.3: boxes with more than one final class have no balance.
func TestNoBalance(t *testing.T) {
	for n := 2; n <= api.MaxStates; n++ {
		same := make([]int, n)
		for i := range same {
			same[i] = i
		}
		middle := slices.Clone(same)
		middle[n/2] = 0
		for _, box := range []api.Box{boxOf(same), boxOf(same, same, same, same), boxOf(same, middle)} {
			want := api.ErrNone
			if n == 2 && len(box.Maps) == 2 {
				want = api.OK
			}
			if got, e := draw.Balance(box); e != want || e != api.OK && len(got) != 0 {
				t.Errorf("Balance(%v) = %v, %d, want the error %d", box, got, e, want)
			}
		}
	}
}
