package haggle_test

import (
	"math"
	"math/rand/v2"
	"slices"

	"galloon/api"
)

// The helpers in this file follow the chapter's definitions literally, and share no code with the package.

// far is greater than all bounds and all numbers of a tree.
const far = 5000

// treeOf returns the tree in which each node, but the root, has the given parent.
func treeOf(parents []int) []api.Move {
	tree := make([]api.Move, len(parents)+1)
	for i, parent := range parents {
		tree[parent].Children = append(tree[parent].Children, i+1)
	}
	return tree
}

// shapes returns all trees of n nodes, with the children in ascending order, and every Worth 0.
func shapes(n int) [][]api.Move {
	lists := [][]int{nil}
	for node := 1; node < n; node++ {
		var longer [][]int
		for _, list := range lists {
			for parent := range node {
				longer = append(longer, append(slices.Clone(list), parent))
			}
		}
		lists = longer
	}
	var trees [][]api.Move
	for _, parents := range lists {
		trees = append(trees, treeOf(parents))
	}
	return trees
}

func cloneOf(tree []api.Move) []api.Move {
	list := slices.Clone(tree)
	for i := range list {
		list[i].Children = slices.Clone(list[i].Children)
	}
	return list
}

// worthBy returns the tree with the Worth of each leaf by a formula.
func worthBy(tree []api.Move, worth func(leaf int) int) []api.Move {
	list := cloneOf(tree)
	for _, leaf := range leavesOf(tree) {
		list[leaf].Worth = worth(leaf)
	}
	return list
}

// reordered returns the tree with the children of each node in another order.
func reordered(tree []api.Move, change func(children []int)) []api.Move {
	list := cloneOf(tree)
	for _, move := range list {
		change(move.Children)
	}
	return list
}

// allTrees returns all trees of n nodes with these numbers at their leaves, with ascending and with descending children.
func allTrees(n int, numbers ...int) [][]api.Move {
	var list [][]api.Move
	for _, shape := range shapes(n) {
		for _, tree := range [][]api.Move{shape, reordered(shape, slices.Reverse)} {
			all := [][]api.Move{tree}
			for _, leaf := range leavesOf(tree) {
				var more [][]api.Move
				for _, before := range all {
					for _, number := range numbers {
						after := cloneOf(before)
						after[leaf].Worth = number
						more = append(more, after)
					}
				}
				all = more
			}
			list = append(list, all...)
			if slices.EqualFunc(tree, reordered(tree, slices.Reverse), sameMove) {
				break
			}
		}
	}
	return list
}

// smallTrees returns all trees of few nodes with few different numbers.
func smallTrees() [][]api.Move {
	return slices.Concat(allTrees(1, -100, -1, 0, 1, 100), allTrees(2, -100, -1, 0, 1, 100), allTrees(3, -1, 0, 1), allTrees(4, -1, 0, 1), allTrees(5, 0, 1))
}

// chain returns a tree of n nodes each of which, but the last one, has one child.
func chain(n, worth int) []api.Move {
	tree := make([]api.Move, n)
	for node := 1; node < n; node++ {
		tree[node-1].Children = []int{node}
	}
	tree[n-1].Worth = worth
	return tree
}

// evenTree returns a tree of n nodes in which the first nodes have as many children as given.
func evenTree(n, degree int) []api.Move {
	var parents []int
	for node := 1; node < n; node++ {
		parents = append(parents, (node-1)/degree)
	}
	return treeOf(parents)
}

// caterpillar returns a tree of n nodes in which each inner node has a leaf and one further child.
func caterpillar(n int) []api.Move {
	var parents []int
	for node := 1; node < n; node++ {
		parents = append(parents, (node-1)/2*2)
	}
	return treeOf(parents)
}

// brush returns the tree whose root has one child, with these many children, each with these many leaves.
func brush(children, leaves int) []api.Move {
	parents := []int{0}
	for range children {
		parents = append(parents, 1)
	}
	for node := range children {
		for range leaves {
			parents = append(parents, node+2)
		}
	}
	return treeOf(parents)
}

// offers returns a tree whose root has 19 children with two leaves each: the first one by the formula,
// the second one different in all of them, and worth more.
func offers(worth func(leaf int) int) []api.Move {
	var parents []int
	for node := 1; node <= 57; node++ {
		parents = append(parents, max(0, (node-18)/2))
	}
	return worthBy(treeOf(parents), func(leaf int) int {
		if leaf%2 == 0 {
			return worth(leaf)
		}
		return leaf
	})
}

// randomTree returns a tree of n nodes whose parents stand at most reach before them, with children in any order.
func randomTree(random *rand.Rand, n, reach, span int) []api.Move {
	var parents []int
	for node := 1; node < n; node++ {
		parents = append(parents, node-1-random.IntN(min(node, reach)))
	}
	tree := reordered(treeOf(parents), func(children []int) {
		random.Shuffle(len(children), func(i, j int) { children[i], children[j] = children[j], children[i] })
	})
	return worthBy(tree, func(int) int { return random.IntN(2*span+1) - span })
}

// largerTrees returns trees of up to MaxMoves nodes: with patterns, and with many and with few equal numbers.
func largerTrees() [][]api.Move {
	var list [][]api.Move
	for _, n := range []int{10, 31, 59, 60} {
		list = append(list, chain(n, 17), chain(n, -100))
		for _, shape := range [][]api.Move{evenTree(n, 2), evenTree(n, 3), evenTree(n, 7), evenTree(n, 59), caterpillar(n)} {
			list = append(list,
				shape,
				worthBy(shape, func(leaf int) int { return 100 }),
				worthBy(shape, func(leaf int) int { return leaf }),
				worthBy(shape, func(leaf int) int { return -leaf }),
				worthBy(shape, func(leaf int) int { return leaf * leaf % 7 }),
				worthBy(reordered(shape, slices.Reverse), func(leaf int) int { return leaf%2*200 - 100 }))
		}
	}
	random := rand.New(rand.NewPCG(4, 4))
	for _, n := range []int{7, 8, 9, 12, 20, 40, 60} {
		for _, reach := range []int{2, 4, 8, 60} {
			for _, span := range []int{0, 1, 2, 10, 100} {
				for range 4 {
					list = append(list, randomTree(random, n, reach, span))
				}
			}
		}
	}
	return append(list,
		worthBy(brush(11, 4), func(leaf int) int { return leaf % 3 }),
		worthBy(brush(14, 3), func(leaf int) int { return 5 }),
		offers(func(leaf int) int { return leaf / 2 * 7 % 3 }),
		offers(func(leaf int) int { return 0 }))
}

// noTrees are lists that are no trees.
func noTrees() [][]api.Move {
	one := func(children ...int) []api.Move { return []api.Move{{Children: children}, {}, {}} }
	list := [][]api.Move{
		nil, {}, {{}, {}}, {{}, {}, {}}, {{Children: []int{0}}}, {{Children: []int{1}}}, {{Children: []int{-1}}},
		{{Children: []int{1}}, {}, {}}, {{Children: []int{2}}, {}, {}}, {{}, {Children: []int{2}}, {}},
		{{Children: []int{1, 1}}, {}}, {{Children: []int{1, 2}}, {Children: []int{2}}, {}}, {{Children: []int{1}}, {Children: []int{2, 2}}, {}},
		{{Children: []int{1}}, {Children: []int{0}}}, {{Children: []int{1}}, {Children: []int{1}}}, {{Children: []int{1, 0}}, {}},
		{{Children: []int{2}}, {}, {Children: []int{1}}}, {{Children: []int{1}}, {}, {Children: []int{3}}, {}}, {{}, {Children: []int{1}}},
		{{Children: []int{1, 2}}, {}, {Children: []int{1}}}, {{Children: []int{1}}, {}, {Children: []int{2}}},
		one(1, 2, 3), one(1, 2, -1), one(3, 1, 2), one(-1, 1, 2), one(1, 2, 0), one(0, 1, 2), one(1, 2, 1), one(1, 2, 2), one(1, 3),
		one(1, math.MaxInt), one(math.MinInt, 1, 2), one(1, 2, 1<<32), one(1, 1<<32+2), {{Children: make([]int, 1<<16)}}, {{Children: slices.Repeat([]int{1}, 1<<16)}, {}},
		chain(61, 1), evenTree(61, 60), evenTree(61, 2), chain(62, 1), make([]api.Move, 1<<16), make([]api.Move, 60), chain(1000, 0),
	}
	for _, tree := range [][]api.Move{chain(1, 0), chain(2, 0), evenTree(3, 2), evenTree(7, 2), evenTree(60, 2), chain(60, 0)} {
		for node, move := range tree {
			numbers := []int{101, -101, 1 << 32, 1<<32 + 1, math.MinInt, math.MaxInt}
			if len(move.Children) > 0 {
				numbers = append(numbers, 1, -1, 100, -100)
			}
			for _, number := range numbers {
				wrong := cloneOf(tree)
				wrong[node].Worth = number
				list = append(list, wrong)
			}
		}
	}
	return list
}

// isTree tells whether the list is a tree.
func isTree(list []api.Move) bool {
	parents := make([][]int, len(list))
	for node, move := range list {
		for _, child := range move.Children {
			if child < 0 || child >= len(list) {
				return false
			}
			parents[child] = append(parents[child], node)
		}
		if move.Worth < -100 || move.Worth > 100 || len(move.Children) > 0 && move.Worth != 0 {
			return false
		}
	}
	for node, those := range parents {
		if node == 0 && len(those) != 0 || node > 0 && (len(those) != 1 || those[0] >= node) {
			return false
		}
	}
	return len(list) >= 1 && len(list) <= 60
}

func sameMove(a, b api.Move) bool {
	return a.Worth == b.Worth && slices.Equal(a.Children, b.Children)
}

func sameTree(a, b []api.Move) bool {
	return slices.EqualFunc(a, b, sameMove)
}

// leavesOf returns all leaves, in ascending order.
func leavesOf(tree []api.Move) []int {
	var list []int
	for node, move := range tree {
		if len(move.Children) == 0 {
			list = append(list, node)
		}
	}
	return list
}

// depthOf returns how many steps lead from the root to the node.
func depthOf(tree []api.Move, node int) int {
	if node == 0 {
		return 0
	}
	parent := slices.IndexFunc(tree, func(move api.Move) bool { return slices.Contains(move.Children, node) })
	return depthOf(tree, parent) + 1
}

// valueAt returns the value of a node at a depth.
func valueAt(tree []api.Move, node, depth int) int {
	if len(tree[node].Children) == 0 {
		return tree[node].Worth
	}
	var list []int
	for _, child := range tree[node].Children {
		list = append(list, valueAt(tree, child, depth+1))
	}
	if depth%2 == 0 {
		return slices.Max(list)
	}
	return slices.Min(list)
}

func valueOf(tree []api.Move) int {
	return valueAt(tree, 0, 0)
}

// fillings returns the tree with all numbers from the list at these leaves.
func fillings(tree []api.Move, leaves []int, numbers ...int) [][]api.Move {
	all := [][]api.Move{tree}
	for _, leaf := range leaves {
		var more [][]api.Move
		for _, before := range all {
			for _, number := range numbers {
				after := slices.Clone(before)
				after[leaf].Worth = number
				more = append(more, after)
			}
		}
		all = more
	}
	return all
}

// subsets returns all lists, each in the order given, of some of the numbers, the short ones first.
func subsets(numbers []int) [][]int {
	var all [][]int
	for set := range 1 << len(numbers) {
		var list []int
		for i, number := range numbers {
			if set>>i&1 == 1 {
				list = append(list, number)
			}
		}
		all = append(all, list)
	}
	slices.SortStableFunc(all, func(a, b []int) int { return len(a) - len(b) })
	return all
}

// except returns the numbers of a list that are not in the other one.
func except(list, other []int) []int {
	return slices.DeleteFunc(slices.Clone(list), func(number int) bool { return slices.Contains(other, number) })
}

// isAtLeast and isAtMost tell how the value of a tree compares with b.
func isAtLeast(tree []api.Move, b int) bool { return valueOf(tree) >= b }
func isAtMost(tree []api.Move, b int) bool  { return valueOf(tree) <= b }

// isDecided tells whether the tree is decided by these leaves, for few other ones: their extremes are tried.
func isDecided(tree []api.Move, leaves []int, holds func(tree []api.Move, b int) bool, b int) bool {
	for _, filled := range fillings(tree, except(leavesOf(tree), leaves), -far, far) {
		if !holds(filled, b) {
			return false
		}
	}
	return true
}

// isDecidedAtOnce tells the same for any tree: the greater a leaf is worth, the greater (or equal) is the value.
func isDecidedAtOnce(tree []api.Move, leaves []int, atLeast bool, b int) bool {
	others := except(leavesOf(tree), leaves)
	if atLeast {
		return isAtLeast(fillings(tree, others, -far)[0], b)
	}
	return isAtMost(fillings(tree, others, far)[0], b)
}

// someBounds are bounds about the numbers of small trees, and the limits.
func someBounds() []int {
	return []int{-1000, -101, -100, -99, -2, -1, 0, 1, 2, 99, 100, 101, 1000}
}
