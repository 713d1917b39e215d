package draw

import (
	"math/bits"

	"galloon/api"
)

// set is a set of states: a bit for each of them.
type set uint

// single returns the set with this state alone.
func single(state int) set {
	return 1 << state
}

func (s set) has(state int) bool {
	return s&single(state) != 0
}

func (s set) size() int {
	return bits.OnesCount(uint(s))
}

// list returns the states in ascending order.
func (s set) list() []int {
	var list []int
	for state := range api.MaxStates {
		if s.has(state) {
			list = append(list, state)
		}
	}
	return list
}

// sent returns the image of a set: all states to which a state of it is sent.
func (s set) sent(send func(state int) int) set {
	var image set
	for _, state := range s.list() {
		image |= single(send(state))
	}
	return image
}
