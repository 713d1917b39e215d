package draw

import "galloon/api"

// Chance returns the chance that draws of this number of steps meet within them.
func Chance(box api.Box, steps int) (api.Frac, api.Errno) {
	l, ok := newLots(box)
	if !ok || !areSteps(steps) {
		return api.Frac{}, api.ErrArg
	}
	meeting := sum(l.counts(l.all(), steps))
	return fractions(l.total(steps), meeting)[0], api.OK
}

// Shares returns, for each state, the chance that draws of this number of steps meet within them, and send all to it.
func Shares(box api.Box, steps int) ([]api.Frac, api.Errno) {
	l, ok := newLots(box)
	if !ok || !areSteps(steps) {
		return nil, api.ErrArg
	}
	return l.shares(l.all(), steps), api.OK
}

// After returns, for each state, the chance that the given state is sent there by this number of steps.
func After(box api.Box, state, steps int) ([]api.Frac, api.Errno) {
	l, ok := newLots(box)
	if !ok || !l.isState(state) || !areSteps(steps) {
		return nil, api.ErrArg
	}
	return l.shares(single(state), steps), api.OK
}

// shares returns, for each state, the chance that so many steps send all of a set there.
func (l lots) shares(from set, steps int) []api.Frac {
	return fractions(l.total(steps), l.counts(from, steps)...)
}

// total counts all draws of this number of steps, each one as often as the product of its weights says.
func (l lots) total(steps int) int {
	total := 1
	for range steps {
		total *= sum(l.weights)
	}
	return total
}

// counts counts, for each state, the draws that send all of a set there, each one as often as the product
// of its weights says. The draws are applied forward here, which changes no chance: the reverse of draws is as likely.
func (l lots) counts(from set, steps int) []int {
	images := map[set]int{from: 1}
	for range steps {
		images = l.onward(images)
	}
	counts := make([]int, l.states)
	for state := range counts {
		counts[state] = images[single(state)]
	}
	return counts
}

// onward returns how often each image is counted after one more step.
func (l lots) onward(images map[set]int) map[set]int {
	next := map[set]int{}
	for image, count := range images {
		for position, send := range l.sends {
			next[image.sent(send)] += count * l.weights[position]
		}
	}
	return next
}
