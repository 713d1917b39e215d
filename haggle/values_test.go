package haggle_test

import (
	"slices"
	"testing"

	"galloon/api"
	"galloon/haggle"
)

// P4.1: the values of the root and of all nodes.
func TestValuesByDefinition(t *testing.T) {
	for _, tree := range slices.Concat(smallTrees(), largerTrees()) {
		var want []int
		for node := range tree {
			want = append(want, valueAt(tree, node, depthOf(tree, node)))
		}
		if n, e := haggle.Value(tree); e != api.OK || n != want[0] {
			t.Fatalf("Value(%v) = %d, %d, want %d", tree, n, e, want[0])
		}
		if l, e := haggle.Values(tree); e != api.OK || !slices.Equal(l, want) {
			t.Fatalf("Values(%v) = %v, %d, want %v", tree, l, e, want)
		}
	}
}

// P4.1: a leaf alone, chains, numbers at the limits, and who moves first.
func TestEdgesOfValues(t *testing.T) {
	for _, c := range []struct {
		tree []api.Move
		want []int
	}{
		{[]api.Move{{Worth: 7}}, []int{7}},
		{[]api.Move{{Worth: -100}}, []int{-100}},
		{[]api.Move{{Children: []int{}, Worth: 100}}, []int{100}},
		{chain(3, -4), []int{-4, -4, -4}},
		{chain(60, 100), slices.Repeat([]int{100}, 60)},
		{[]api.Move{{Children: []int{1, 2}}, {Worth: -100}, {Worth: 100}}, []int{100, -100, 100}},
		{[]api.Move{{Children: []int{1}}, {Children: []int{2, 3}}, {Worth: -100}, {Worth: 100}}, []int{-100, -100, -100, 100}},
		{[]api.Move{{Children: []int{2, 1}}, {Worth: -3}, {Children: []int{4, 3}}, {Worth: -5}, {Worth: -7}}, []int{-3, -3, -7, -5, -7}},
		{[]api.Move{{Children: []int{1, 2}}, {Children: []int{3, 4}}, {Children: []int{5, 6}}, {Worth: 3}, {Worth: 5}, {Worth: 2}, {Worth: 9}}, []int{3, 3, 2, 3, 5, 2, 9}},
	} {
		if l, e := haggle.Values(c.tree); e != api.OK || !slices.Equal(l, c.want) {
			t.Errorf("Values(%v) = %v, %d, want %v", c.tree, l, e, c.want)
		}
		if n, e := haggle.Value(c.tree); e != api.OK || n != c.want[0] {
			t.Errorf("Value(%v) = %d, %d, want %d", c.tree, n, e, c.want[0])
		}
	}
}

// P4.1: the line goes on to the first child, in the order of Children, with the same value.
func TestLineByDefinition(t *testing.T) {
	for _, tree := range slices.Concat(smallTrees(), largerTrees()) {
		want := []int{0}
		for node, depth := 0, 0; len(tree[node].Children) > 0; depth++ {
			for _, child := range tree[node].Children {
				if valueAt(tree, child, depth+1) == valueAt(tree, node, depth) {
					node = child
					break
				}
			}
			want = append(want, node)
		}
		if l, e := haggle.Line(tree); e != api.OK || !slices.Equal(l, want) {
			t.Fatalf("Line(%v) = %v, %d, want %v", tree, l, e, want)
		}
	}
}

// P4.1: of several children with the same value the first one in the order of Children counts, not the one at the first position.
func TestEdgesOfLine(t *testing.T) {
	for _, c := range []struct {
		tree []api.Move
		want []int
	}{
		{[]api.Move{{Worth: 7}}, []int{0}},
		{chain(4, 0), []int{0, 1, 2, 3}},
		{[]api.Move{{Children: []int{1, 2}}, {Worth: 4}, {Worth: 4}}, []int{0, 1}},
		{[]api.Move{{Children: []int{2, 1}}, {Worth: 4}, {Worth: 4}}, []int{0, 2}},
		{[]api.Move{{Children: []int{3, 1, 2}}, {Worth: 4}, {Worth: 4}, {Worth: 3}}, []int{0, 1}},
		{[]api.Move{{Children: []int{1}}, {Children: []int{4, 3, 2}}, {Worth: 1}, {Worth: 1}, {Worth: 2}}, []int{0, 1, 3}},
	} {
		if l, e := haggle.Line(c.tree); e != api.OK || !slices.Equal(l, c.want) {
			t.Errorf("Line(%v) = %v, %d, want %v", c.tree, l, e, c.want)
		}
	}
}

// searched is the search of the chapter, word for word: what it gives, and the leaves that it visits.
func searched(tree []api.Move, node, depth, low, high int) (int, []int) {
	if len(tree[node].Children) == 0 {
		return tree[node].Worth, []int{node}
	}
	var visited []int
	if depth%2 == 0 {
		best := low
		for _, child := range tree[node].Children {
			number, more := searched(tree, child, depth+1, best, high)
			visited = append(visited, more...)
			best = max(best, number)
			if best >= high {
				return best, visited
			}
		}
		return best, visited
	}
	best := high
	for _, child := range tree[node].Children {
		number, more := searched(tree, child, depth+1, low, best)
		visited = append(visited, more...)
		best = min(best, number)
		if best <= low {
			return best, visited
		}
	}
	return best, visited
}

// P4.1 and P4.6: Search gives the value, and visits the leaves of the search in their order.
func TestSearchByDefinition(t *testing.T) {
	for _, tree := range slices.Concat(smallTrees(), allTrees(6, 0, 1), largerTrees()) {
		want, visited := searched(tree, 0, 0, -far, far)
		n, l, e := haggle.Search(tree)
		if e != api.OK || n != want || n != valueOf(tree) || !slices.Equal(l, visited) {
			t.Fatalf("Search(%v) = %d, %v, %d, want %d, %v", tree, n, l, e, want, visited)
		}
	}
}

// P4.1: where a search leaves out the others: at the bound itself, and at bounds from further up.
func TestEdgesOfSearch(t *testing.T) {
	for _, c := range []struct {
		tree    []api.Move
		value   int
		visited []int
	}{
		{[]api.Move{{Worth: -100}}, -100, []int{0}},
		{chain(60, -100), -100, []int{59}},
		{chain(59, 100), 100, []int{58}},
		// The root leaves out none, as there is nothing above all numbers.
		{[]api.Move{{Children: []int{1, 2, 3}}, {Worth: 100}, {Worth: 100}, {Worth: -100}}, 100, []int{1, 2, 3}},
		// The second reply is equal to the first offer: the third one is left out.
		{[]api.Move{{Children: []int{1, 2}}, {Children: []int{3}}, {Children: []int{4, 5}}, {Worth: 3}, {Worth: 3}, {Worth: 1}}, 3, []int{3, 4}},
		// It is greater: the third one is visited.
		{[]api.Move{{Children: []int{1, 2}}, {Children: []int{3}}, {Children: []int{4, 5}}, {Worth: 3}, {Worth: 4}, {Worth: 1}}, 3, []int{3, 4, 5}},
		// The children in the order of Children, not of positions.
		{[]api.Move{{Children: []int{2, 1}}, {Children: []int{3, 4}}, {Children: []int{6, 5}}, {Worth: 3}, {Worth: 5}, {Worth: 2}, {Worth: 9}}, 3, []int{6, 5, 3, 4}},
		// The root's best so far leaves out a leaf three steps below it, and one at a depth where Max moves is left out too.
		{[]api.Move{{Children: []int{1, 2}}, {Worth: 5}, {Children: []int{3}}, {Children: []int{4}}, {Children: []int{5, 6}}, {Worth: 5}, {Worth: 9}}, 5, []int{1, 5}},
		{[]api.Move{{Children: []int{1}}, {Children: []int{2, 3}}, {Worth: 2}, {Children: []int{4, 5}}, {Worth: 2}, {Worth: 9}}, 2, []int{2, 4}},
		{[]api.Move{{Children: []int{1}}, {Children: []int{2, 3}}, {Worth: 2}, {Children: []int{4, 5}}, {Worth: 1}, {Worth: 9}}, 2, []int{2, 4, 5}},
	} {
		n, l, e := haggle.Search(c.tree)
		if e != api.OK || n != c.value || !slices.Equal(l, c.visited) {
			t.Errorf("Search(%v) = %d, %v, %d, want %d, %v", c.tree, n, l, e, c.value, c.visited)
		}
	}
}
