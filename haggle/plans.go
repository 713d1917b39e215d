package haggle

import (
	"slices"

	"galloon/api"
)

// isChoice reports whether a plan for Max has a child for this node, if it can be reached.
func (g game) isChoice(node int) bool {
	return g.mover(node) == maxSide && !g.isLeaf(node)
}

// unplanned returns a list with -1 for each node.
func (g game) unplanned() []int {
	return slices.Repeat([]int{-1}, len(g.tree))
}

// Plan returns the plan that has, for each of its nodes, the first child with the same value.
func Plan(tree []api.Move) ([]int, api.Errno) {
	g, ok := newGame(tree)
	if !ok {
		return nil, api.ErrArg
	}
	values := g.values()
	plan := g.unplanned()
	for node := range reached(values.heirsOf(maxSide)) {
		if g.isChoice(node) {
			plan[node] = values.heir(node)
		}
	}
	return plan, api.OK
}

// planned is a game with a list, as long as the tree, that is to be a plan.
type planned struct {
	game
	plan []int
}

// next returns the nodes that can be reached from a node in one step: where Max chooses, only the child of the plan,
// and none if the plan has no child there.
func (p planned) next(node int) []int {
	children := p.children(node)
	if !p.isChoice(node) {
		return children
	}
	at := slices.Index(children, p.plan[node])
	if at < 0 {
		return nil
	}
	return children[at : at+1]
}

// isPlan reports whether the list has a child for each choice that can be reached, and -1 everywhere else.
func (p planned) isPlan() bool {
	choices := p.unplanned()
	for node := range reached(p.next) {
		if !p.isChoice(node) {
			continue
		}
		if len(p.next(node)) == 0 {
			return false
		}
		choices[node] = p.plan[node]
	}
	return slices.Equal(p.plan, choices)
}

// Check returns the smallest Worth of all leaves that can be reached with the plan.
func Check(tree []api.Move, plan []int) (int, api.Errno) {
	g, ok := newGame(tree)
	if !ok {
		return 0, api.ErrArg
	}
	p := planned{g, plan}
	if len(plan) != len(tree) || !p.isPlan() {
		return 0, api.ErrAnswer
	}
	smallest := api.MaxWorth
	for leaf := range g.leaves(p.next) {
		smallest = min(smallest, g.worth(leaf))
	}
	return smallest, api.OK
}

// Plans returns the number of plans for Max for which Check returns the value of the root.
func Plans(tree []api.Move) (int, api.Errno) {
	g, ok := newGame(tree)
	if !ok {
		return 0, api.ErrArg
	}
	value := g.values().numbers[0]
	// No plan guarantees more than the value: those that never lead below it are to be counted.
	enough := func(leaf int) int {
		if g.worth(leaf) < value {
			return 0
		}
		return 1
	}
	return g.fold(enough, sum, product).numbers[0], api.OK
}
