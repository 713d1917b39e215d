package draw_test

import (
	"iter"
	"math/big"
	"math/rand/v2"
	"slices"

	"galloon/api"
)

// The helpers in this file follow the chapter's definitions literally, and share no code with the package.

func of(num, den int) api.Frac {
	return api.Frac{Num: num, Den: den}
}

// boxOf returns a box with weights from 1 to 9 that differ.
func boxOf(maps ...[]int) api.Box {
	box := api.Box{Maps: maps}
	for i, list := range maps {
		box.Weights = append(box.Weights, 1+(5*i+3*list[0]+len(list))%9)
	}
	return box
}

func coin() api.Box {
	return api.Box{Maps: [][]int{{0, 0}, {1, 1}}, Weights: []int{1, 2}}
}

func walk() api.Box {
	return api.Box{Maps: [][]int{{0, 0, 1}, {1, 2, 2}}, Weights: []int{1, 1}}
}

func swap() api.Box {
	return api.Box{Maps: [][]int{{1, 0}}, Weights: []int{3}}
}

// slow returns the box of n states that needs the most draws to meet: a turn of all states, and a map that moves one.
func slow(n int) api.Box {
	turn := make([]int, n)
	move := make([]int, n)
	for state := range n {
		turn[state] = (state + 1) % n
		move[state] = state
	}
	move[n-1] = 0
	return boxOf(turn, move)
}

// tuples visits all lists of n numbers from 0 to most, in lexicographic order.
func tuples(n, most int) iter.Seq[[]int] {
	return func(yield func([]int) bool) {
		list := make([]int, n)
		for {
			if !yield(slices.Clone(list)) {
				return
			}
			at := n - 1
			for at >= 0 && list[at] == most {
				list[at] = 0
				at--
			}
			if at < 0 {
				return
			}
			list[at]++
		}
	}
}

// allBoxes visits all boxes of one to three states with one or two maps, and with more maps those of one or two states.
func allBoxes(yield func(api.Box) bool) {
	for n := 1; n <= 3; n++ {
		every := slices.Collect(tuples(n, n-1))
		for maps := 1; maps <= api.MaxMaps && (n < 3 || maps < 3); maps++ {
			for choice := range tuples(maps, len(every)-1) {
				var lists [][]int
				for _, at := range choice {
					lists = append(lists, every[at])
				}
				if !yield(boxOf(lists...)) {
					return
				}
			}
		}
	}
}

// randomBoxes returns boxes of each size: of any maps, of maps that move little, of maps that keep the order,
// and of maps that keep the states in parts.
func randomBoxes() []api.Box {
	r := rand.New(rand.NewPCG(7, 20))
	var list []api.Box
	for n := 1; n <= api.MaxStates; n++ {
		for maps := 1; maps <= api.MaxMaps; maps++ {
			for range 3 {
				list = append(list,
					randomBox(r, maps, func() []int { return anyMap(r, n, 0, n) }),
					randomBox(r, maps, func() []int { return littleMap(r, n) }),
					randomBox(r, maps, func() []int { return slices.Sorted(slices.Values(anyMap(r, n, 0, n))) }),
					randomBox(r, maps, func() []int { return partMap(r, n) }),
					randomBox(r, maps, func() []int { return r.Perm(n) }))
			}
		}
	}
	return list
}

func randomBox(r *rand.Rand, maps int, one func() []int) api.Box {
	var box api.Box
	for range maps {
		box.Maps = append(box.Maps, one())
		box.Weights = append(box.Weights, 1+r.IntN(api.MaxWeight))
	}
	return box
}

// anyMap returns n states from first on, and before end.
func anyMap(r *rand.Rand, n, first, end int) []int {
	list := make([]int, n)
	for i := range list {
		list[i] = first + r.IntN(end-first)
	}
	return list
}

// littleMap returns a map that moves one or two states.
func littleMap(r *rand.Rand, n int) []int {
	list := make([]int, n)
	for i := range list {
		list[i] = i
	}
	for range 1 + r.IntN(2) {
		list[r.IntN(n)] = r.IntN(n)
	}
	return list
}

// partMap returns a map that keeps the lower half of the states and, but for the last state, the upper half.
func partMap(r *rand.Rand, n int) []int {
	if n < 3 {
		return anyMap(r, n, 0, n)
	}
	half := n / 2
	return slices.Concat(anyMap(r, half, 0, half), anyMap(r, n-1-half, half, n-1), anyMap(r, 1, 0, n))
}

// knownBoxes returns boxes with edge cases: the limits, slow ones, and classes of several kinds.
func knownBoxes() []api.Box {
	list := []api.Box{
		coin(), walk(), swap(),
		{Maps: [][]int{{0}}, Weights: []int{9}},
		{Maps: [][]int{{0}, {0}, {0}, {0}}, Weights: []int{9, 9, 9, 9}},
		{Maps: [][]int{{0, 0, 2}}, Weights: []int{1}},
		{Maps: [][]int{{0, 1, 2, 3, 4, 5, 6}}, Weights: []int{1}},
		{Maps: [][]int{{1, 2, 3, 4, 5, 6, 0}}, Weights: []int{9}},
		{Maps: [][]int{{1, 2, 0, 4, 3, 6, 5}, {1, 2, 0, 4, 3, 5, 6}}, Weights: []int{2, 4}},
		{Maps: [][]int{{1, 2, 3, 4, 5, 6, 0}, {0, 0, 1, 2, 3, 4, 5}, {6, 0, 0, 0, 0, 0, 0}, {3, 3, 3, 3, 3, 3, 4}}, Weights: []int{9, 9, 9, 9}},
		{Maps: [][]int{{1, 2, 3, 4, 5, 6, 6}, {0, 0, 1, 2, 3, 4, 5}}, Weights: []int{9, 8}},
		{Maps: [][]int{{6, 6, 5, 4, 3, 2, 1}, {1, 2, 3, 4, 5, 6, 6}, {0, 0, 1, 2, 3, 4, 5}, {2, 2, 2, 3, 5, 5, 5}}, Weights: []int{7, 9, 8, 9}},
		{Maps: [][]int{{1, 1, 3, 3, 5, 5, 6}, {1, 1, 2, 3, 5, 5, 6}}, Weights: []int{1, 2}},
		{Maps: [][]int{{1, 0, 3, 2, 0, 2, 4}}, Weights: []int{5}},
	}
	for n := 2; n <= api.MaxStates; n++ {
		list = append(list, slow(n))
	}
	return list
}

// largerBoxes returns the known boxes and the random ones.
func largerBoxes() []api.Box {
	return slices.Concat(knownBoxes(), randomBoxes())
}

// boxes visits all boxes of the tests.
func boxes(yield func(api.Box) bool) {
	for box := range allBoxes {
		if !yield(box) {
			return
		}
	}
	for _, box := range largerBoxes() {
		if !yield(box) {
			return
		}
	}
}

// states returns the number of states of a box.
func states(box api.Box) int {
	return len(box.Maps[0])
}

// forward applies draws to a state.
func forward(box api.Box, state int, draws []int) int {
	for _, draw := range draws {
		state = box.Maps[draw][state]
	}
	return state
}

// past lists where each state is sent from the past, by all draws.
func past(box api.Box, draws []int) []int {
	turned := slices.Clone(draws)
	slices.Reverse(turned)
	list := make([]int, states(box))
	for state := range list {
		list[state] = forward(box, state, turned)
	}
	return list
}

// different returns the numbers of a list, each once, in ascending order.
func different(list []int) []int {
	return slices.Compact(slices.Sorted(slices.Values(list)))
}

// randomDraws returns draws of this length.
func randomDraws(r *rand.Rand, box api.Box, length int) []int {
	return anyMap(r, length, 0, len(box.Maps))
}

// someDraws returns draws for a box: short ones, the longest ones, and others.
func someDraws(box api.Box) [][]int {
	r := rand.New(rand.NewPCG(uint64(states(box)), uint64(len(box.Maps))))
	last := len(box.Maps) - 1
	list := [][]int{nil, {}, {0}, {last}, {0, last}, {last, 0}, make([]int, api.MaxDraws), slices.Repeat([]int{last}, api.MaxDraws)}
	for _, length := range []int{1, 2, 3, 4, 5, 7, 10, 20, api.MaxDraws - 1, api.MaxDraws} {
		list = append(list, randomDraws(r, box, length))
	}
	return list
}

// all visits all draws of this number of steps, with the product of their weights.
func all(box api.Box, steps int) iter.Seq2[[]int, int] {
	return func(yield func([]int, int) bool) {
		for draws := range tuples(steps, len(box.Maps)-1) {
			product := 1
			for _, draw := range draws {
				product *= box.Weights[draw]
			}
			if !yield(draws, product) {
				return
			}
		}
	}
}

// lowest returns a fraction in lowest terms.
func lowest(num, den int) api.Frac {
	r := big.NewRat(int64(num), int64(den))
	return of(int(r.Num().Int64()), int(r.Denom().Int64()))
}

// isValid tells whether a fraction is valid.
func isValid(f api.Frac) bool {
	if f.Den < 1 {
		return false
	}
	common := new(big.Int).GCD(nil, nil, big.NewInt(int64(max(f.Num, -f.Num))), big.NewInt(int64(f.Den)))
	return common.Cmp(big.NewInt(1)) == 0
}

// rat returns the value of a fraction.
func rat(f api.Frac) *big.Rat {
	return big.NewRat(int64(f.Num), int64(f.Den))
}

// totalOf returns the sum of the weights to the power of the number of steps.
func totalOf(box api.Box, steps int) int {
	sum := 0
	for _, weight := range box.Weights {
		sum += weight
	}
	total := 1
	for range steps {
		total *= sum
	}
	return total
}
