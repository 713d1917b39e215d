package draw

import "galloon/api"

// Monotone returns true if no map sends a state to a greater one than it sends a greater state to,
// and otherwise the first map, by its position, and state q that it sends to a greater state than q + 1.
func Monotone(box api.Box) ([2]int, bool, api.Errno) {
	l, ok := newLots(box)
	if !ok {
		return [2]int{}, false, api.ErrArg
	}
	for position, send := range l.sends {
		// If any two states are sent so, two that are next to each other are.
		for state := range l.states - 1 {
			if send(state) > send(state+1) {
				return [2]int{position, state}, false, api.OK
			}
		}
	}
	return [2]int{}, true, api.OK
}
