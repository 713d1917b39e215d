package haggle_test

import (
	"slices"
	"sort"
	"testing"

	"galloon/api"
	"galloon/haggle"
)

// sortedBelow adds a node of the tree and all nodes below it, best children first, to a list.
func sortedBelow(tree []api.Move, node, depth int, list []api.Move) []api.Move {
	at := len(list)
	list = append(list, api.Move{Worth: tree[node].Worth})
	children := slices.Clone(tree[node].Children)
	sort.SliceStable(children, func(i, j int) bool {
		a, b := valueAt(tree, children[i], depth+1), valueAt(tree, children[j], depth+1)
		return depth%2 == 0 && a > b || depth%2 == 1 && a < b
	})
	for _, child := range children {
		list[at].Children = append(list[at].Children, len(list))
		list = sortedBelow(tree, child, depth+1, list)
	}
	return list
}

// P4.5 and P4.6: Sorted has the best children first, in each node, and is numbered anew.
func TestSortedByDefinition(t *testing.T) {
	for _, tree := range slices.Concat(smallTrees(), allTrees(6, 0, 1), largerTrees()) {
		want := sortedBelow(tree, 0, 0, nil)
		l, e := haggle.Sorted(tree)
		if e != api.OK || !sameTree(l, want) || !isTree(l) {
			t.Fatalf("Sorted(%v) = %v, %d, want %v", tree, l, e, want)
		}
		for node, move := range l {
			depth := depthOf(l, node)
			if len(move.Children) > 0 && valueAt(l, move.Children[0], depth+1) != valueAt(l, node, depth) {
				t.Fatalf("Sorted(%v) = %v: node %d", tree, l, node)
			}
		}
		if again, e := haggle.Sorted(l); e != api.OK || !sameTree(again, l) || valueOf(l) != valueOf(tree) {
			t.Fatalf("Sorted(%v) = %v, but sorted again %v, %d", tree, l, again, e)
		}
	}
}

// P4.5: equal children stay in the order of Children, with what is below them; positions alone change too.
func TestEdgesOfSorted(t *testing.T) {
	for _, c := range []struct{ tree, want []api.Move }{
		{[]api.Move{{Worth: 7}}, []api.Move{{Worth: 7}}},
		{chain(60, -5), chain(60, -5)},
		{
			[]api.Move{{Children: []int{1, 2}}, {Worth: 1}, {Children: []int{3, 4}}, {Worth: 8}, {Worth: 4}},
			[]api.Move{{Children: []int{1, 4}}, {Children: []int{2, 3}}, {Worth: 4}, {Worth: 8}, {Worth: 1}},
		},
		// The children are equal; the second one of Children, a leaf, stays behind the inner one.
		{
			[]api.Move{{Children: []int{2, 1}}, {Worth: 4}, {Children: []int{4, 3}}, {Worth: 9}, {Worth: 4}},
			[]api.Move{{Children: []int{1, 4}}, {Children: []int{2, 3}}, {Worth: 4}, {Worth: 9}, {Worth: 4}},
		},
		{
			[]api.Move{{Children: []int{1, 2}}, {Worth: 4}, {Children: []int{3, 4}}, {Worth: 9}, {Worth: 4}},
			[]api.Move{{Children: []int{1, 2}}, {Worth: 4}, {Children: []int{3, 4}}, {Worth: 4}, {Worth: 9}},
		},
		// Nodes in the order of their depths are numbered in the order of the branches.
		{
			[]api.Move{{Children: []int{1, 2}}, {Children: []int{3}}, {Children: []int{4}}, {Worth: 6}, {Worth: 5}},
			[]api.Move{{Children: []int{1, 3}}, {Children: []int{2}}, {Worth: 6}, {Children: []int{4}}, {Worth: 5}},
		},
	} {
		if l, e := haggle.Sorted(c.tree); e != api.OK || !sameTree(l, c.want) {
			t.Errorf("Sorted(%v) = %v, %d, want %v", c.tree, l, e, c.want)
		}
	}
}

// P4.5 and P4.6: Turned has a new root, all positions grown by 1, and the value times -1.
func TestTurnedByDefinition(t *testing.T) {
	for _, tree := range slices.Concat(smallTrees(), largerTrees()) {
		l, e := haggle.Turned(tree)
		if len(tree) == 60 {
			if e != api.ErrArg || len(l) != 0 {
				t.Fatalf("Turned of 60 nodes = %v, %d", l, e)
			}
			continue
		}
		want := append([]api.Move{{Children: []int{1}}}, shifted(worthBy(tree, func(leaf int) int { return -tree[leaf].Worth }))...)
		if e != api.OK || !sameTree(l, want) || !isTree(l) {
			t.Fatalf("Turned(%v) = %v, %d, want %v", tree, l, e, want)
		}
		if n, e := haggle.Value(l); e != api.OK || n != -valueOf(tree) {
			t.Fatalf("Value(Turned(%v)) = %d, %d, want %d", tree, n, e, -valueOf(tree))
		}
	}
}

// P4.5: the limits of nodes and of Worth.
func TestEdgesOfTurned(t *testing.T) {
	for _, c := range []struct{ tree, want []api.Move }{
		{[]api.Move{{Worth: 100}}, []api.Move{{Children: []int{1}}, {Worth: -100}}},
		{[]api.Move{{Worth: -100}}, []api.Move{{Children: []int{1}}, {Worth: 100}}},
		{[]api.Move{{Worth: 0}}, []api.Move{{Children: []int{1}}, {}}},
		{chain(59, 1), chain(60, -1)},
		{[]api.Move{{Children: []int{2, 1}}, {Worth: 3}, {Worth: -4}}, []api.Move{{Children: []int{1}}, {Children: []int{3, 2}}, {Worth: -3}, {Worth: 4}}},
	} {
		if l, e := haggle.Turned(c.tree); e != api.OK || !sameTree(l, c.want) {
			t.Errorf("Turned(%v) = %v, %d, want %v", c.tree, l, e, c.want)
		}
	}
	for _, tree := range [][]api.Move{chain(60, 1), evenTree(60, 59), evenTree(60, 2)} {
		if l, e := haggle.Turned(tree); e != api.ErrArg || len(l) != 0 {
			t.Errorf("Turned of 60 nodes = %v, %d", l, e)
		}
	}
}
