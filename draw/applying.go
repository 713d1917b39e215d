package draw

import (
	"slices"

	"galloon/api"
)

// Forward returns the state to which the draws send a state, the first of them first.
func Forward(box api.Box, state int, draws []int) (int, api.Errno) {
	l, ok := newLots(box)
	if !ok || !l.isState(state) || !l.areDraws(draws) {
		return 0, api.ErrArg
	}
	for _, position := range draws {
		state = l.sends[position](state)
	}
	return state, api.OK
}

// past returns what applies draws from the past: the last of them first.
func (l lots) past(draws []int) func(state int) int {
	return func(state int) int {
		for _, position := range slices.Backward(draws) {
			state = l.sends[position](state)
		}
		return state
	}
}

// Past returns the smallest number of steps within which the draws meet, and the state to which they send all then.
func Past(box api.Box, draws []int) (int, int, api.Errno) {
	l, ok := newLots(box)
	if !ok || !l.areDraws(draws) {
		return 0, 0, api.ErrArg
	}
	for steps := range len(draws) + 1 {
		send := l.past(draws[:steps])
		if l.all().sent(send).size() == 1 {
			return steps, send(0), api.OK
		}
	}
	return 0, 0, api.ErrNone
}

// Image returns all states to which some state is sent from the past, by all draws, in ascending order.
func Image(box api.Box, draws []int) ([]int, api.Errno) {
	l, ok := newLots(box)
	if !ok || !l.areDraws(draws) {
		return nil, api.ErrArg
	}
	return l.all().sent(l.past(draws)).list(), api.OK
}
