package haggle

import (
	"math"

	"galloon/api"
)

// values numbers all nodes by their values.
func (g game) values() numbered {
	return g.fold(g.worth, greater, smaller)
}

// Value returns the value of the root.
func Value(tree []api.Move) (int, api.Errno) {
	g, ok := newGame(tree)
	if !ok {
		return 0, api.ErrArg
	}
	return g.values().numbers[0], api.OK
}

// Values returns the values of all nodes.
func Values(tree []api.Move) ([]int, api.Errno) {
	g, ok := newGame(tree)
	if !ok {
		return nil, api.ErrArg
	}
	values := g.values()
	list := make([]int, len(tree))
	for node := range list {
		list[node] = values.numbers[node]
	}
	return list, api.OK
}

// Line returns the nodes from the root to a leaf, each one the first child that has the value of its parent.
func Line(tree []api.Move) ([]int, api.Errno) {
	g, ok := newGame(tree)
	if !ok {
		return nil, api.ErrArg
	}
	values := g.values()
	node := 0
	line := []int{node}
	for !g.isLeaf(node) {
		node = values.heir(node)
		line = append(line, node)
	}
	return line, api.OK
}

// Search returns what the search gives, and the leaves that it visits, in the order of the visits.
func Search(tree []api.Move) (int, []int, api.Errno) {
	g, ok := newGame(tree)
	if !ok {
		return 0, nil, api.ErrArg
	}
	s := search{game: g}
	value := s.run(0, math.MinInt, math.MaxInt)
	return value, s.visited, api.OK
}

// search is a game with the leaves that have been visited.
type search struct {
	game
	visited []int
}

// run searches below a node. The best so far is low where Max moves, and high where Min moves.
func (s *search) run(node, low, high int) int {
	if s.isLeaf(node) {
		s.visited = append(s.visited, node)
		return s.worth(node)
	}
	best := low
	if s.mover(node) == minSide {
		best = high
	}
replies:
	for _, child := range s.children(node) {
		switch s.mover(node) {
		case maxSide:
			best = max(best, s.run(child, best, high))
			if best >= high {
				break replies
			}
		case minSide:
			best = min(best, s.run(child, low, best))
			if best <= low {
				break replies
			}
		}
	}
	return best
}
