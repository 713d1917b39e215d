package draw_test

import (
	"math/big"
	"slices"
	"testing"

	"galloon/api"
	"galloon/draw"
)

// sharesOf returns the shares of the states, for all that draws of this number of steps do: where they send all
// states if they meet, and where they send each state.
func sharesOf(box api.Box, steps int) (meeting []api.Frac, after [][]api.Frac) {
	n := states(box)
	met := make([]int, n)
	sent := make([][]int, n)
	for state := range sent {
		sent[state] = make([]int, n)
	}
	for draws, weight := range all(box, steps) {
		if image := different(past(box, draws)); len(image) == 1 {
			met[image[0]] += weight
		}
		for state := range n {
			sent[state][forward(box, state, draws)] += weight
		}
	}
	for _, counts := range sent {
		after = append(after, sharesIn(box, steps, counts))
	}
	return sharesIn(box, steps, met), after
}

// sharesIn returns the counts as shares of all draws.
func sharesIn(box api.Box, steps int, counts []int) []api.Frac {
	var shares []api.Frac
	for _, count := range counts {
		shares = append(shares, lowest(count, totalOf(box, steps)))
	}
	return shares
}

// wantChances checks Chance, Shares and After by trying all draws.
func wantChances(t *testing.T, box api.Box, steps int) {
	t.Helper()
	meeting, after := sharesOf(box, steps)
	wantShares(t, box, steps, meeting)
	for state, want := range after {
		if got, e := draw.After(box, state, steps); !slices.Equal(got, want) || e != api.OK {
			t.Fatalf("After(%v, %d, %d) = %v, %d, want %v", box, state, steps, got, e, want)
		}
	}
}

// wantShares checks Shares, and Chance, which is their sum.
func wantShares(t *testing.T, box api.Box, steps int, want []api.Frac) {
	t.Helper()
	if got, e := draw.Shares(box, steps); !slices.Equal(got, want) || e != api.OK {
		t.Fatalf("Shares(%v, %d) = %v, %d, want %v", box, steps, got, e, want)
	}
	sum := new(big.Rat)
	for _, share := range want {
		sum.Add(sum, rat(share))
	}
	chance := of(int(sum.Num().Int64()), int(sum.Denom().Int64()))
	if got, e := draw.Chance(box, steps); got != chance || e != api.OK {
		t.Fatalf("Chance(%v, %d) = %v, %d, want %v", box, steps, got, e, chance)
	}
}

// P7.4: all boxes, by trying all draws of few steps.
func TestChances(t *testing.T) {
	for box := range boxes {
		for steps := range 9 {
			if totalOf(api.Box{Weights: slices.Repeat([]int{1}, len(box.Maps))}, steps) > 300 {
				break
			}
			wantChances(t, box, steps)
		}
	}
}

// P7.4: up to MaxChance steps, for boxes with the most maps and the greatest weights too.
func TestMostSteps(t *testing.T) {
	for _, box := range knownBoxes() {
		for steps := 5; steps <= api.MaxChance; steps++ {
			wantChances(t, box, steps)
		}
	}
}

// P7.4: chances that are known.
func TestKnownChances(t *testing.T) {
	for steps, want := range []api.Frac{of(0, 1), of(0, 1), of(1, 2), of(3, 4), of(7, 8), of(15, 16), of(31, 32), of(63, 64), of(127, 128)} {
		if got, e := draw.Chance(walk(), steps); got != want || e != api.OK {
			t.Errorf("Chance(%d) = %v, %d, want %v", steps, got, e, want)
		}
	}
	wantShares(t, walk(), 2, []api.Frac{of(1, 4), of(0, 1), of(1, 4)})
	wantShares(t, coin(), 0, []api.Frac{of(0, 1), of(0, 1)})
	wantShares(t, boxOf([]int{0}, []int{0}), 0, []api.Frac{of(1, 1)})
	wantShares(t, boxOf([]int{0}, []int{0}), 8, []api.Frac{of(1, 1)})
	for steps := 1; steps <= api.MaxChance; steps++ {
		wantShares(t, coin(), steps, []api.Frac{of(1, 3), of(2, 3)})
		wantShares(t, swap(), steps, []api.Frac{of(0, 1), of(0, 1)})
	}
	for _, c := range []struct {
		box          api.Box
		state, steps int
		want         []api.Frac
	}{
		{walk(), 0, 1, []api.Frac{of(1, 2), of(1, 2), of(0, 1)}}, {walk(), 2, 0, []api.Frac{of(0, 1), of(0, 1), of(1, 1)}}, {walk(), 1, 2, []api.Frac{of(1, 4), of(1, 2), of(1, 4)}},
		{swap(), 0, 8, []api.Frac{of(1, 1), of(0, 1)}}, {swap(), 0, 7, []api.Frac{of(0, 1), of(1, 1)}}, {coin(), 1, 3, []api.Frac{of(1, 3), of(2, 3)}}, {boxOf([]int{0}), 0, 5, []api.Frac{of(1, 1)}},
	} {
		if got, e := draw.After(c.box, c.state, c.steps); !slices.Equal(got, c.want) || e != api.OK {
			t.Errorf("After(%v, %d, %d) = %v, %d, want %v", c.box, c.state, c.steps, got, e, c.want)
		}
	}
}

// P7.4: where one map sends all to a state and the other ones move nothing, the chance is that of the map to be drawn.
func TestGreatestDenominators(t *testing.T) {
	same := []int{0, 1, 2, 3, 4, 5, 6}
	for weight := 1; weight <= api.MaxWeight; weight++ {
		for state := range 7 {
			box := api.Box{Maps: [][]int{same, slices.Repeat([]int{state}, 7), same, same}, Weights: []int{8, weight, 9, 9}}
			for steps := range api.MaxChance + 1 {
				never := big.NewRat(1, 1)
				for range steps {
					never.Mul(never, big.NewRat(26, int64(26+weight)))
				}
				met := new(big.Rat).Sub(big.NewRat(1, 1), never)
				want := slices.Repeat([]api.Frac{of(0, 1)}, 7)
				want[state] = of(int(met.Num().Int64()), int(met.Denom().Int64()))
				wantShares(t, box, steps, want)
			}
		}
	}
}

// P7.4: After takes one step after the other, and adds up to 1.
func TestAfterByStep(t *testing.T) {
	for _, box := range largerBoxes() {
		for state := range states(box) {
			want := slices.Repeat([]api.Frac{of(0, 1)}, states(box))
			want[state] = of(1, 1)
			for steps := range api.MaxChance + 1 {
				got, e := draw.After(box, state, steps)
				if !slices.Equal(got, want) || e != api.OK || !addUp(got) {
					t.Fatalf("After(%v, %d, %d) = %v, %d, want %v", box, state, steps, got, e, want)
				}
				want = stepped(box, want)
			}
		}
	}
}

// P7.6: the share of a state does not shrink with the number of steps, and is at most its share in the balance;
// the chance is 0 for all numbers of steps less than that of Shortest, and not for others.
func TestSharesGrow(t *testing.T) {
	reached := 0
	for box := range boxes {
		before := slices.Repeat([]api.Frac{of(0, 1)}, states(box))
		shortest, none := draw.Shortest(box)
		balance, _ := draw.Balance(box)
		for steps := range api.MaxChance + 1 {
			shares, e := draw.Shares(box, steps)
			if e != api.OK || len(shares) != states(box) {
				t.Fatalf("Shares(%v, %d) = %v, %d", box, steps, shares, e)
			}
			for state, share := range shares {
				if !isValid(share) || rat(share).Cmp(rat(before[state])) < 0 || share.Num > 0 && rat(share).Cmp(rat(balance[state])) > 0 {
					t.Fatalf("Shares(%v, %d) = %v, after %v, and the balance is %v", box, steps, shares, before, balance)
				}
			}
			before = shares
			chance, e := draw.Chance(box, steps)
			meets := none == api.OK && steps >= len(shortest)
			if e != api.OK || !isValid(chance) || (chance != of(0, 1)) != meets {
				t.Fatalf("Chance(%v, %d) = %v, %d, Shortest is %v", box, steps, chance, e, shortest)
			}
			if meets {
				reached++
			}
		}
	}
	if reached < 1000 {
		t.Errorf("only %d chances are not 0", reached)
	}
}
