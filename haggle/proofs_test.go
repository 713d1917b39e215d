package haggle_test

import (
	"math"
	"slices"
	"testing"

	"galloon/api"
	"galloon/haggle"
)

// prover is Proof or Refute, with what the one of them has to prove.
type prover struct {
	name    string
	call    func(tree []api.Move, b int) ([]int, api.Errno)
	holds   func(tree []api.Move, b int) bool
	atLeast bool
}

func provers() []prover {
	return []prover{{"Proof", haggle.Proof, isAtLeast, true}, {"Refute", haggle.Refute, isAtMost, false}}
}

// isLeafList tells whether the list consists of leaves of the tree, in strictly ascending order.
func isLeafList(tree []api.Move, list []int) bool {
	return len(except(list, leavesOf(tree))) == 0 && slices.IsSorted(list) && len(slices.Compact(slices.Clone(list))) == len(list)
}

// P4.2 and P3: of small trees, no smaller list decides than those of Proof and Refute.
func TestProofsByDefinition(t *testing.T) {
	for _, tree := range smallTrees() {
		sets := subsets(leavesOf(tree))
		for _, b := range someBounds() {
			for _, p := range provers() {
				l, e := p.call(tree, b)
				if !p.holds(tree, b) {
					if e != api.ErrNone || len(l) != 0 {
						t.Fatalf("%s(%v, %d) = %v, %d", p.name, tree, b, l, e)
					}
					continue
				}
				first := slices.IndexFunc(sets, func(set []int) bool { return isDecided(tree, set, p.holds, b) })
				if e != api.OK || !isLeafList(tree, l) || len(l) != len(sets[first]) || !isDecided(tree, l, p.holds, b) {
					t.Fatalf("%s(%v, %d) = %v, %d, but %v is enough", p.name, tree, b, l, e, sets[first])
				}
			}
		}
	}
}

// fewest returns how few leaves prove that the value of a node is at least b (or at most), and far or more if none do.
func fewest(tree []api.Move, node, depth int, atLeast bool, b int) int {
	if len(tree[node].Children) == 0 {
		if atLeast && tree[node].Worth >= b || !atLeast && tree[node].Worth <= b {
			return 1
		}
		return far
	}
	best, total := far, 0
	for _, child := range tree[node].Children {
		number := fewest(tree, child, depth+1, atLeast, b)
		best, total = min(best, number), total+number
	}
	if (depth%2 == 0) == atLeast {
		return best
	}
	return total
}

// P4.2 and P4.6: proofs in larger trees, for the value, for less and for more.
func TestLargerProofs(t *testing.T) {
	for _, tree := range largerTrees() {
		value := valueOf(tree)
		for _, b := range []int{-1000, value - 10, value - 1, value, value + 1, value + 10, 1000} {
			for _, p := range provers() {
				l, e := p.call(tree, b)
				size := fewest(tree, 0, 0, p.atLeast, b)
				if size >= far {
					if e != api.ErrNone || len(l) != 0 {
						t.Fatalf("%s(%v, %d) = %v, %d", p.name, tree, b, l, e)
					}
					continue
				}
				if e != api.OK || !isLeafList(tree, l) || len(l) != size || !isDecidedAtOnce(tree, l, p.atLeast, b) {
					t.Fatalf("%s(%v, %d) = %v, %d, want %d leaves", p.name, tree, b, l, e, size)
				}
			}
		}
	}
}

// P4.2: a proof names leaves even where all numbers of a tree would do, and chooses the smaller one of two.
func TestEdgesOfProofs(t *testing.T) {
	// Max has three leaves under the first child, and two under the second one.
	offers := []api.Move{{Children: []int{1, 2}}, {Children: []int{5, 4, 3}}, {Children: []int{7, 6}}, {Worth: 8}, {Worth: 9}, {Worth: 7}, {Worth: 6}, {Worth: 5}}
	// Min has two leaves under the first child, and one under the second one, but that one is worth more.
	replies := []api.Move{{Children: []int{1}}, {Children: []int{2, 3}}, {Children: []int{4, 5}}, {Worth: 5}, {Worth: 2}, {Worth: 3}}
	for _, c := range []struct {
		call func([]api.Move, int) ([]int, api.Errno)
		tree []api.Move
		b    int
		want []int // nil if there is none
	}{
		{haggle.Proof, []api.Move{{Worth: 7}}, 7, []int{0}},
		{haggle.Proof, []api.Move{{Worth: 7}}, -1000, []int{0}},
		{haggle.Proof, []api.Move{{Worth: 7}}, 8, nil},
		{haggle.Proof, []api.Move{{Worth: 7}}, 1000, nil},
		{haggle.Refute, []api.Move{{Worth: 7}}, 7, []int{0}},
		{haggle.Refute, []api.Move{{Worth: 7}}, 1000, []int{0}},
		{haggle.Refute, []api.Move{{Worth: 7}}, 6, nil},
		{haggle.Refute, []api.Move{{Worth: 7}}, -1000, nil},
		{haggle.Proof, chain(60, 3), 3, []int{59}},
		{haggle.Refute, chain(60, 3), 3, []int{59}},
		{haggle.Proof, offers, -1000, []int{6, 7}},
		{haggle.Proof, offers, 5, []int{6, 7}},
		{haggle.Proof, offers, 6, []int{3, 4, 5}},
		{haggle.Proof, offers, 7, []int{3, 4, 5}},
		{haggle.Proof, offers, 8, nil},
		{haggle.Refute, replies, 1000, []int{3}},
		{haggle.Refute, replies, 5, []int{3}},
		{haggle.Refute, replies, 4, []int{4, 5}},
		{haggle.Refute, replies, 3, []int{4, 5}},
		{haggle.Refute, replies, 2, nil},
		{haggle.Refute, evenTree(60, 59), 0, leavesOf(evenTree(60, 59))},
		{haggle.Refute, evenTree(60, 59), -1, nil},
	} {
		l, e := c.call(c.tree, c.b)
		if c.want == nil && (e != api.ErrNone || len(l) != 0) || c.want != nil && (e != api.OK || !slices.Equal(l, c.want)) {
			t.Errorf("of %v for %d: %v, %d, want %v", c.tree, c.b, l, e, c.want)
		}
	}
}

// P4.2: which lists of leaves decide small trees.
func TestDecidesByDefinition(t *testing.T) {
	for _, tree := range smallTrees() {
		for _, leaves := range subsets(leavesOf(tree)) {
			for _, b := range someBounds() {
				if is, e := haggle.Decides(tree, leaves, b); e != api.OK || is != isDecided(tree, leaves, isAtLeast, b) {
					t.Fatalf("Decides(%v, %v, %d) = %t, %d", tree, leaves, b, is, e)
				}
			}
		}
	}
}

// everyNth returns the numbers of a list whose positions modulo n are the remainder.
func everyNth(list []int, n, remainder int) []int {
	var some []int
	for i, number := range list {
		if i%n == remainder {
			some = append(some, number)
		}
	}
	return some
}

// someLeaves returns lists of leaves of a tree of any size.
func someLeaves(tree []api.Move) [][]int {
	leaves := leavesOf(tree)
	proof, _ := haggle.Proof(tree, valueOf(tree))
	refute, _ := haggle.Refute(tree, valueOf(tree))
	return [][]int{
		nil, leaves, leaves[:len(leaves)-1], leaves[len(leaves)/2:], proof, proof[1:], proof[:len(proof)-1], refute, refute[1:],
		everyNth(leaves, 2, 0), everyNth(leaves, 2, 1), everyNth(leaves, 3, 1), except(leaves, proof), except(leaves, refute),
	}
}

// P4.2: Decides in larger trees.
func TestLargerDecides(t *testing.T) {
	for _, tree := range largerTrees() {
		value := valueOf(tree)
		for _, leaves := range someLeaves(tree) {
			for _, b := range []int{-1000, value - 1, value, value + 1, 1000} {
				if is, e := haggle.Decides(tree, leaves, b); e != api.OK || is != isDecidedAtOnce(tree, leaves, true, b) {
					t.Fatalf("Decides(%v, %v, %d) = %t, %d", tree, leaves, b, is, e)
				}
			}
		}
	}
}

// fewestFurther returns the smallest number of further leaves that can, with some worth, decide the tree; or -1.
func fewestFurther(tree []api.Move, known []int, holds func(tree []api.Move, b int) bool, b int) int {
	for _, further := range subsets(except(leavesOf(tree), known)) {
		all := slices.Sorted(slices.Values(slices.Concat(known, further)))
		for _, filled := range fillings(tree, further, -far, far) {
			if isDecided(filled, all, holds, b) {
				return len(further)
			}
		}
	}
	return -1
}

// P4.4: the numbers of small trees, for all lists of known leaves.
func TestNumbersByDefinition(t *testing.T) {
	for _, tree := range slices.Concat(allTrees(1, -100, 0, 100), allTrees(2, -1, 0, 1), allTrees(3, -1, 0, 1), allTrees(4, 0, 1), allTrees(5, 0, 1)) {
		for _, known := range subsets(leavesOf(tree)) {
			for _, b := range []int{-1000, -1, 0, 1, 2, 1000} {
				first, second := fewestFurther(tree, known, isAtLeast, b), fewestFurther(tree, known, isAtMost, b-1)
				if n, m, e := haggle.Numbers(tree, known, b); e != api.OK || n != first || m != second {
					t.Fatalf("Numbers(%v, %v, %d) = %d, %d, %d, want %d, %d", tree, known, b, n, m, e, first, second)
				}
			}
		}
	}
}

// fewestAt returns the same number for any tree; it is far or more where there is none.
func fewestAt(tree []api.Move, known []int, node, depth int, atLeast bool, b int) int {
	if len(tree[node].Children) == 0 {
		met := atLeast && tree[node].Worth >= b || !atLeast && tree[node].Worth <= b
		switch {
		case !slices.Contains(known, node):
			return 1
		case met:
			return 0
		}
		return far
	}
	best, total := far, 0
	for _, child := range tree[node].Children {
		number := fewestAt(tree, known, child, depth+1, atLeast, b)
		best, total = min(best, number), total+number
	}
	if (depth%2 == 0) == atLeast {
		return best
	}
	return total
}

// P4.4: the numbers of larger trees.
func TestLargerNumbers(t *testing.T) {
	orNone := func(n int) int {
		if n >= far {
			return -1
		}
		return n
	}
	for _, tree := range largerTrees() {
		value := valueOf(tree)
		for _, known := range someLeaves(tree) {
			for _, b := range []int{-1000, value - 1, value, value + 1, 1000} {
				first, second := orNone(fewestAt(tree, known, 0, 0, true, b)), orNone(fewestAt(tree, known, 0, 0, false, b-1))
				if n, m, e := haggle.Numbers(tree, known, b); e != api.OK || n != first || m != second {
					t.Fatalf("Numbers(%v, %v, %d) = %d, %d, %d, want %d, %d", tree, known, b, n, m, e, first, second)
				}
			}
		}
	}
}

// P4.4: without known leaves the Worth does not matter, nor the bound; with all of them only the value does.
func TestEdgesOfNumbers(t *testing.T) {
	deal := []api.Move{{Children: []int{1, 2}}, {Children: []int{3, 4}}, {Children: []int{5, 6}}, {Worth: 3}, {Worth: 5}, {Worth: 2}, {Worth: 9}}
	for _, c := range []struct {
		tree  []api.Move
		known []int
		b     int
		n, m  int
	}{
		{deal, nil, 4, 2, 2},
		{deal, []int{}, 1000, 2, 2},
		{deal, nil, -1000, 2, 2},
		{deal, []int{3}, 4, 2, 1},
		{deal, []int{4}, 4, 1, 2},
		{deal, []int{4, 6}, 4, 1, 2},
		{deal, []int{3, 4}, 3, 0, -1},
		{deal, []int{3, 5}, 4, -1, 0},
		{deal, []int{3, 4, 5, 6}, 3, 0, -1},
		{deal, []int{3, 4, 5, 6}, 4, -1, 0},
		{[]api.Move{{Worth: 7}}, nil, 1000, 1, 1},
		{[]api.Move{{Worth: 7}}, []int{0}, 7, 0, -1},
		{[]api.Move{{Worth: 7}}, []int{0}, 8, -1, 0},
		{evenTree(60, 59), nil, 0, 1, 59},
		{append([]api.Move{{Children: []int{1}}}, shifted(evenTree(59, 58))...), nil, 0, 58, 1},
		{evenTree(60, 59), []int{1}, 1, 1, 58},
		{evenTree(60, 59), []int{1}, 0, 0, -1},
	} {
		if n, m, e := haggle.Numbers(c.tree, c.known, c.b); e != api.OK || n != c.n || m != c.m {
			t.Errorf("Numbers(%v, %v, %d) = %d, %d, %d, want %d, %d", c.tree, c.known, c.b, n, m, e, c.n, c.m)
		}
	}
}

// shifted returns a tree with all positions of children greater by 1.
func shifted(tree []api.Move) []api.Move {
	return reordered(tree, func(children []int) {
		for i := range children {
			children[i]++
		}
	})
}

// P4.2 and P4.4: bounds that are none, also where the tree could not be decided anyway.
func TestNoBounds(t *testing.T) {
	for _, tree := range [][]api.Move{chain(1, 0), evenTree(7, 2), chain(60, 100)} {
		for _, b := range []int{-1001, 1001, 1 << 32, -1 << 32, math.MinInt, math.MaxInt} {
			if l, e := haggle.Proof(tree, b); e != api.ErrArg || len(l) != 0 {
				t.Errorf("Proof(%d) = %v, %d", b, l, e)
			}
			if l, e := haggle.Refute(tree, b); e != api.ErrArg || len(l) != 0 {
				t.Errorf("Refute(%d) = %v, %d", b, l, e)
			}
			for _, leaves := range [][]int{nil, leavesOf(tree)} {
				if is, e := haggle.Decides(tree, leaves, b); e != api.ErrArg || is {
					t.Errorf("Decides(%d) = %t, %d", b, is, e)
				}
				if n, m, e := haggle.Numbers(tree, leaves, b); e != api.ErrArg || n != 0 || m != 0 {
					t.Errorf("Numbers(%d) = %d, %d, %d", b, n, m, e)
				}
			}
		}
	}
}

// P4.2 and P4.4: lists that do not consist of leaves, or are not in strictly ascending order.
func TestNoLeaves(t *testing.T) {
	tree := []api.Move{{Children: []int{1, 2}}, {Children: []int{3, 4}}, {Children: []int{5, 6}}, {Worth: 3}, {Worth: 5}, {Worth: 2}, {Worth: 9}}
	for _, leaves := range [][]int{
		{0}, {1}, {2}, {-1}, {7}, {60}, {1 << 32}, {1<<32 + 3}, {math.MinInt}, {math.MaxInt}, {3, 3}, {4, 3}, {6, 5, 4, 3}, {3, 4, 5, 6, 6}, {3, 4, 5, 6, 7},
		{-1, 3}, {2, 3}, {3, 2}, {3, 6, 5}, {3, 4, 1}, {3, 4, math.MaxInt}, {3, math.MinInt}, make([]int, 1<<16), slices.Repeat([]int{3}, 1<<16),
	} {
		for _, b := range []int{-1000, 0, 3, 1000, 1001} {
			if is, e := haggle.Decides(tree, leaves, b); e != api.ErrArg || is {
				t.Errorf("Decides(%.20v, %d) = %t, %d", leaves, b, is, e)
			}
			if n, m, e := haggle.Numbers(tree, leaves, b); e != api.ErrArg || n != 0 || m != 0 {
				t.Errorf("Numbers(%.20v, %d) = %d, %d, %d", leaves, b, n, m, e)
			}
		}
	}
	for _, leaves := range [][]int{{0, 0}, {1}, {-1}, {0, 1}} {
		if _, e := haggle.Decides([]api.Move{{Worth: 7}}, leaves, 0); e != api.ErrArg {
			t.Errorf("Decides(%v) of a leaf: %d", leaves, e)
		}
		if _, _, e := haggle.Numbers([]api.Move{{Worth: 7}}, leaves, 0); e != api.ErrArg {
			t.Errorf("Numbers(%v) of a leaf: %d", leaves, e)
		}
	}
}

// P4.6: the leaves of Proof for the value and those of Refute for the value, together, decide it.
func TestProofsTogether(t *testing.T) {
	for _, tree := range slices.Concat(smallTrees(), largerTrees()) {
		value := valueOf(tree)
		proof, e := haggle.Proof(tree, value)
		refute, f := haggle.Refute(tree, value)
		both := slices.Concat(proof, refute)
		if e != api.OK || f != api.OK || !isDecidedAtOnce(tree, both, true, value) || !isDecidedAtOnce(tree, both, false, value) {
			t.Fatalf("%v: Proof = %v, %d, Refute = %v, %d", tree, proof, e, refute, f)
		}
	}
}
