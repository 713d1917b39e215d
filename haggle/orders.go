package haggle

import (
	"cmp"
	"slices"

	"galloon/api"
)

// Sorted returns the tree with the best children first, numbered anew.
func Sorted(tree []api.Move) ([]api.Move, api.Errno) {
	g, ok := newGame(tree)
	if !ok {
		return nil, api.ErrArg
	}
	values := g.values()
	order := slices.Collect(reached(values.bestFirst))
	positions := map[int]int{}
	for position, node := range order {
		positions[node] = position
	}
	sorted := make([]api.Move, len(tree))
	for position, node := range order {
		children := values.bestFirst(node)
		for i, child := range children {
			children[i] = positions[child]
		}
		sorted[position] = api.Move{Children: children, Worth: g.worth(node)}
	}
	return sorted, api.OK
}

// bestFirst returns the children of a node, as new memory, those with the best number for the one who moves first.
func (n numbered) bestFirst(node int) []int {
	children := slices.Clone(n.children(node))
	slices.SortStableFunc(children, func(a, b int) int {
		ascending := cmp.Compare(n.numbers[a], n.numbers[b])
		if n.mover(node) == maxSide {
			return -ascending
		}
		return ascending
	})
	return children
}

// Turned returns the tree with every Worth multiplied by -1, below a new root.
func Turned(tree []api.Move) ([]api.Move, api.Errno) {
	if _, ok := newGame(tree); !ok || len(tree) == api.MaxMoves {
		return nil, api.ErrArg
	}
	turned := []api.Move{{Children: []int{1}}}
	for _, move := range tree {
		var children []int
		for _, child := range move.Children {
			children = append(children, child+1)
		}
		turned = append(turned, api.Move{Children: children, Worth: -move.Worth})
	}
	return turned, api.OK
}
