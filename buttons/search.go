package buttons

import (
	"iter"
	"slices"
)

// state is how far a search has come: the buttons before button are in the holes that are taken.
type state struct {
	button int
	taken  int // a bit for each hole
}

func (s state) isTaken(hole int) bool {
	return s.taken>>hole&1 == 1
}

// next returns the state after the button has been put into the hole.
func (s state) next(hole int) state {
	return state{s.button + 1, s.taken | 1<<hole}
}

// search looks for the first way, in the order, to put buttons into holes that are not taken.
type search struct {
	costs [][]int
	found map[state]way // the ways for the states that it has seen
}

func newSearch(costs [][]int) search {
	return search{costs, map[state]way{}}
}

// first returns the first way for the buttons that have no hole yet. There are enough holes for them.
func (s search) first(from state) way {
	if from.button == len(s.costs) {
		return way{}
	}
	if known, ok := s.found[from]; ok {
		return known
	}
	var ways []way
	for hole, cost := range s.costs[from.button] {
		if !from.isTaken(hole) {
			rest := s.first(from.next(hole))
			ways = append(ways, rest.with(pair{from.button, hole}, cost))
		}
	}
	result := slices.MinFunc(ways, inOrder)
	s.found[from] = result
	return result
}

// firstOf returns the first one of all assignments.
func firstOf(costs [][]int) way {
	return newSearch(costs).first(state{})
}

// without returns the costs of all buttons but one.
func without(costs [][]int, button int) [][]int {
	return slices.Concat(costs[:button], costs[button+1:])
}

// assignments visits all assignments, in lexicographic order.
func assignments(costs [][]int) iter.Seq[way] {
	return func(yield func(way) bool) {
		visit(costs, state{}, way{}, yield)
	}
}

// visit visits all assignments that begin with the way that led to the state, and reports whether to go on.
func visit(costs [][]int, from state, begin way, yield func(way) bool) bool {
	if from.button == len(costs) {
		return yield(begin)
	}
	for hole, cost := range costs[from.button] {
		if from.isTaken(hole) {
			continue
		}
		longer := begin.with(pair{from.button, hole}, cost)
		if !visit(costs, from.next(hole), longer, yield) {
			return false
		}
	}
	return true
}
