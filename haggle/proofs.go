package haggle

import (
	"slices"

	"galloon/api"
)

// never is the cost of what cannot be proved: it is more than a tree has leaves.
const never = api.MaxMoves + 1

// claim is that the value is at least the bound, which Max wants to prove, or at most the bound, which Min wants.
type claim struct {
	by    side
	bound int
}

func (c claim) isMet(worth int) bool {
	if c.by == maxSide {
		return worth >= c.bound
	}
	return worth <= c.bound
}

func isBound(b int) bool {
	return b >= -api.MaxBound && b <= api.MaxBound
}

// dispute is a game in which a claim is to be proved, with leaves whose worth is known.
type dispute struct {
	game
	claim claim
	known []int
}

// costs numbers all nodes by the smallest cost of leaves that prove the claim there.
func (d dispute) costs(leaf func(node int) int) numbered {
	// The one who wants the claim needs it at one child only; against the other one it must hold at all children.
	if d.claim.by == maxSide {
		return d.fold(leaf, smaller, sum)
	}
	return d.fold(leaf, sum, smaller)
}

// toShow is what a leaf costs if each leaf has its Worth, but has to be shown.
func (d dispute) toShow(leaf int) int {
	if d.claim.isMet(d.worth(leaf)) {
		return 1
	}
	return never
}

// toLearn is what a leaf costs if the known leaves are free, and the others can have any worth.
func (d dispute) toLearn(leaf int) int {
	switch {
	case !slices.Contains(d.known, leaf):
		return 1
	case d.claim.isMet(d.worth(leaf)):
		return 0
	}
	return never
}

// Proof returns a smallest list of leaves by which the tree is decided at least b.
func Proof(tree []api.Move, b int) ([]int, api.Errno) {
	return shown(tree, claim{maxSide, b})
}

// Refute returns a smallest list of leaves by which the tree is decided at most b.
func Refute(tree []api.Move, b int) ([]int, api.Errno) {
	return shown(tree, claim{minSide, b})
}

// shown returns a smallest list of leaves that prove the claim.
func shown(tree []api.Move, c claim) ([]int, api.Errno) {
	g, ok := newGame(tree)
	if !ok || !isBound(c.bound) {
		return nil, api.ErrArg
	}
	d := dispute{game: g, claim: c}
	costs := d.costs(d.toShow)
	if costs.numbers[0] >= never {
		return nil, api.ErrNone
	}
	return slices.Sorted(g.leaves(costs.heirsOf(c.by))), api.OK
}

// Decides reports whether the tree is decided at least b by the leaves.
func Decides(tree []api.Move, leaves []int, b int) (bool, api.Errno) {
	g, ok := newGame(tree)
	if !ok || !g.isLeaves(leaves) || !isBound(b) {
		return false, api.ErrArg
	}
	return g.missing(leaves, claim{maxSide, b}) == 0, api.OK
}

// Numbers returns how few further leaves, beside the known ones, can decide the tree at least b, and at most b - 1.
// It returns -1 where none can.
func Numbers(tree []api.Move, known []int, b int) (int, int, api.Errno) {
	g, ok := newGame(tree)
	if !ok || !g.isLeaves(known) || !isBound(b) {
		return 0, 0, api.ErrArg
	}
	return g.missing(known, claim{maxSide, b}), g.missing(known, claim{minSide, b - 1}), api.OK
}

// missing returns the smallest number of further leaves that can prove the claim, and -1 if none can.
func (g game) missing(known []int, c claim) int {
	d := dispute{g, c, known}
	number := d.costs(d.toLearn).numbers[0]
	if number >= never {
		return -1
	}
	return number
}
