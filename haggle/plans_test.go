package haggle_test

import (
	"math"
	"slices"
	"testing"

	"galloon/api"
	"galloon/haggle"
)

// reachable returns the nodes that can be reached with a list of nodes, whether it is a plan or not.
func reachable(tree []api.Move, plan []int) []int {
	list := []int{0}
	// The list grows while it is read.
	for i := 0; i < len(list); i++ {
		node := list[i]
		for _, child := range tree[node].Children {
			if depthOf(tree, node)%2 == 1 || plan[node] == child {
				list = append(list, child)
			}
		}
	}
	return list
}

// isPlan tells whether the list is a plan for Max.
func isPlan(tree []api.Move, plan []int) bool {
	if len(plan) != len(tree) {
		return false
	}
	list := reachable(tree, plan)
	for node, child := range plan {
		if len(tree[node].Children) > 0 && depthOf(tree, node)%2 == 0 && slices.Contains(list, node) {
			if !slices.Contains(tree[node].Children, child) {
				return false
			}
		} else if child != -1 {
			return false
		}
	}
	return true
}

// guaranteed returns the smallest Worth of all leaves that can be reached with the plan.
func guaranteed(tree []api.Move, plan []int) int {
	smallest := math.MaxInt
	for _, node := range reachable(tree, plan) {
		if len(tree[node].Children) == 0 {
			smallest = min(smallest, tree[node].Worth)
		}
	}
	return smallest
}

// allLists returns all lists of length numbers from -1 to most.
func allLists(length, most int) [][]int {
	lists := [][]int{nil}
	for range length {
		var longer [][]int
		for _, list := range lists {
			for number := -1; number <= most; number++ {
				longer = append(longer, append(slices.Clone(list), number))
			}
		}
		lists = longer
	}
	return lists
}

// checkLists compares Check, for all lists that could be plans, and Plans with the definitions.
func checkLists(t *testing.T, tree []api.Move, lists [][]int) {
	t.Helper()
	count, most := 0, math.MinInt
	for _, list := range lists {
		n, e := haggle.Check(tree, list)
		if !isPlan(tree, list) {
			if e != api.ErrAnswer || n != 0 {
				t.Fatalf("Check(%v, %v) = %d, %d", tree, list, n, e)
			}
			continue
		}
		if want := guaranteed(tree, list); e != api.OK || n != want {
			t.Fatalf("Check(%v, %v) = %d, %d, want %d", tree, list, n, e, want)
		}
		most = max(most, n)
		if n == valueOf(tree) {
			count++
		}
	}
	if n, e := haggle.Plans(tree); e != api.OK || n != count || most != valueOf(tree) {
		t.Fatalf("Plans(%v) = %d, %d, want %d; they guarantee up to %d", tree, n, e, count, most)
	}
}

// P4.3 and P4.6: all lists of small trees, plans or not; no plan guarantees more than the value.
func TestPlansByDefinition(t *testing.T) {
	for n := 1; n <= 4; n++ {
		lists := allLists(n, n)
		for _, tree := range allTrees(n, -1, 0, 1) {
			checkLists(t, tree, lists)
		}
	}
	lists := allLists(5, 4)
	for _, shape := range shapes(5) {
		checkLists(t, worthBy(shape, func(leaf int) int { return leaf * leaf % 3 }), lists)
	}
}

// plansFrom returns all lists of pairs, node and child, that are the choices of a plan below a node.
func plansFrom(tree []api.Move, node, depth int) [][][2]int {
	children := tree[node].Children
	if len(children) == 0 {
		return [][][2]int{nil}
	}
	if depth%2 == 0 {
		var list [][][2]int
		for _, child := range children {
			for _, choices := range plansFrom(tree, child, depth+1) {
				list = append(list, append([][2]int{{node, child}}, choices...))
			}
		}
		return list
	}
	list := [][][2]int{nil}
	for _, child := range children {
		var longer [][][2]int
		for _, before := range list {
			for _, choices := range plansFrom(tree, child, depth+1) {
				longer = append(longer, slices.Concat(before, choices))
			}
		}
		list = longer
	}
	return list
}

// allPlans returns all plans for Max.
func allPlans(tree []api.Move) [][]int {
	var list [][]int
	for _, choices := range plansFrom(tree, 0, 0) {
		plan := slices.Repeat([]int{-1}, len(tree))
		for _, choice := range choices {
			plan[choice[0]] = choice[1]
		}
		list = append(list, plan)
	}
	return list
}

// P4.3 and P4.6: all plans of trees of some size.
func TestLargerPlans(t *testing.T) {
	some := slices.Concat(allTrees(6, 0, 1), [][]api.Move{brush(4, 3), worthBy(brush(3, 4), func(leaf int) int { return leaf % 3 })})
	for _, tree := range largerTrees() {
		if len(tree) <= 12 {
			some = append(some, tree)
		}
	}
	for _, tree := range some {
		checkLists(t, tree, allPlans(tree))
	}
}

// P4.3 and P4.6: Plan has, for each of its nodes, the first child with the same value, and guarantees the value.
func TestPlanByDefinition(t *testing.T) {
	for _, tree := range slices.Concat(smallTrees(), allTrees(6, 0, 1), largerTrees()) {
		plan, e := haggle.Plan(tree)
		if e != api.OK || !isPlan(tree, plan) {
			t.Fatalf("Plan(%v) = %v, %d", tree, plan, e)
		}
		for node, child := range plan {
			if child < 0 {
				continue
			}
			depth := depthOf(tree, node)
			first := slices.IndexFunc(tree[node].Children, func(c int) bool {
				return valueAt(tree, c, depth+1) == valueAt(tree, node, depth)
			})
			if child != tree[node].Children[first] {
				t.Fatalf("Plan(%v) = %v", tree, plan)
			}
		}
		if n, e := haggle.Check(tree, plan); e != api.OK || n != valueOf(tree) || n != guaranteed(tree, plan) {
			t.Fatalf("Check(%v, %v) = %d, %d, want %d", tree, plan, n, e, valueOf(tree))
		}
	}
}

// P4.3: plans with one of their entries changed, most of which are none.
func TestChangedPlans(t *testing.T) {
	for _, tree := range slices.Concat([][]api.Move{brush(2, 1), brush(3, 2)}, largerTrees()) {
		plan, _ := haggle.Plan(tree)
		for node := range plan {
			for _, number := range []int{-1, 0, node, node + 1, len(tree) - 1} {
				changed := slices.Clone(plan)
				changed[node] = number
				want, errno := 0, api.ErrAnswer
				if isPlan(tree, changed) {
					want, errno = guaranteed(tree, changed), api.OK
				}
				if n, e := haggle.Check(tree, changed); n != want || e != errno {
					t.Fatalf("Check(%v, %v) = %d, %d, want %d, %d", tree, changed, n, e, want, errno)
				}
			}
		}
	}
}

// countAt returns the number of plans below a node that guarantee at least b.
func countAt(tree []api.Move, node, depth, b int) int {
	children := tree[node].Children
	if len(children) == 0 {
		return max(0, min(1, tree[node].Worth-b+1))
	}
	total, times := 0, 1
	for _, child := range children {
		number := countAt(tree, child, depth+1, b)
		total, times = total+number, times*number
	}
	if depth%2 == 0 {
		return total
	}
	return times
}

// P4.3: the number of plans of trees of all sizes.
func TestNumbersOfPlans(t *testing.T) {
	for _, tree := range slices.Concat(smallTrees(), largerTrees()) {
		want := countAt(tree, 0, 0, valueOf(tree))
		if n, e := haggle.Plans(tree); e != api.OK || n != want {
			t.Fatalf("Plans(%v) = %d, %d, want %d", tree, n, e, want)
		}
	}
	for _, c := range []struct {
		tree []api.Move
		want int
	}{
		{[]api.Move{{Worth: -100}}, 1},
		{chain(60, 100), 1},
		{evenTree(60, 59), 59},
		{worthBy(evenTree(60, 59), func(leaf int) int { return leaf / 50 }), 10},
		{brush(11, 4), 1 << 22},
		{brush(19, 2), 1 << 19},
		{brush(14, 3), 4782969},
		{worthBy(brush(14, 3), func(leaf int) int { return leaf % 3 }), 1},
		{worthBy(brush(14, 3), func(leaf int) int { return -(leaf % 3 / 2) }), 1 << 14},
	} {
		if n, e := haggle.Plans(c.tree); e != api.OK || n != c.want {
			t.Errorf("Plans(%v) = %d, %d, want %d", c.tree, n, e, c.want)
		}
	}
}

// P4.3: plans of a tree in which not every node can be reached, and lists that are none.
func TestEdgesOfCheck(t *testing.T) {
	tree := []api.Move{{Children: []int{2, 1}}, {Children: []int{3, 4}}, {Children: []int{5, 6}}, {Children: []int{7, 8}}, {Worth: 5}, {Worth: 2}, {Worth: 9}, {Worth: 3}, {Worth: 5}}
	for _, c := range []struct {
		plan []int
		want int
		e    api.Errno
	}{
		{[]int{1, -1, -1, 8, -1, -1, -1, -1, -1}, 5, api.OK},
		{[]int{1, -1, -1, 7, -1, -1, -1, -1, -1}, 3, api.OK},
		{[]int{2, -1, -1, -1, -1, -1, -1, -1, -1}, 2, api.OK},
		{[]int{2, -1, -1, 8, -1, -1, -1, -1, -1}, 0, api.ErrAnswer},  // a child for a node that cannot be reached
		{[]int{1, -1, -1, -1, -1, -1, -1, -1, -1}, 0, api.ErrAnswer}, // none for one that can
		{[]int{1, 3, -1, 8, -1, -1, -1, -1, -1}, 0, api.ErrAnswer},   // a child where Min moves
		{[]int{1, -1, 5, 8, -1, -1, -1, -1, -1}, 0, api.ErrAnswer},
		{[]int{1, -1, -1, 8, 0, -1, -1, -1, -1}, 0, api.ErrAnswer}, // something for a leaf
		{[]int{1, -1, -1, 8, -2, -1, -1, -1, -1}, 0, api.ErrAnswer},
		{[]int{1, -1, -1, 8, -1, -1, -1, -1, 8}, 0, api.ErrAnswer},
		{[]int{3, -1, -1, 8, -1, -1, -1, -1, -1}, 0, api.ErrAnswer}, // no child of the node
		{[]int{1, -1, -1, 4, -1, -1, -1, -1, -1}, 0, api.ErrAnswer},
		{[]int{1, -1, -1, 3, -1, -1, -1, -1, -1}, 0, api.ErrAnswer},
		{[]int{0, -1, -1, 8, -1, -1, -1, -1, -1}, 0, api.ErrAnswer},
		{[]int{-1, -1, -1, -1, -1, -1, -1, -1, -1}, 0, api.ErrAnswer},
		{[]int{9, -1, -1, 8, -1, -1, -1, -1, -1}, 0, api.ErrAnswer},
		{[]int{math.MaxInt, -1, -1, 8, -1, -1, -1, -1, -1}, 0, api.ErrAnswer},
		{[]int{1, -1, -1, math.MinInt, -1, -1, -1, -1, -1}, 0, api.ErrAnswer},
		{[]int{1, -1, -1, 1<<32 + 8, -1, -1, -1, -1, -1}, 0, api.ErrAnswer},
		{[]int{1, -1, -1, 8, -1, -1, -1, -1}, 0, api.ErrAnswer}, // a wrong length
		{[]int{1, -1, -1, 8, -1, -1, -1, -1, -1, -1}, 0, api.ErrAnswer},
		{[]int{1}, 0, api.ErrAnswer},
		{nil, 0, api.ErrAnswer},
		{[]int{}, 0, api.ErrAnswer},
		{slices.Repeat([]int{-1}, 1<<16), 0, api.ErrAnswer},
	} {
		if n, e := haggle.Check(tree, c.plan); n != c.want || e != c.e {
			t.Errorf("Check(%.20v) = %d, %d, want %d, %d", c.plan, n, e, c.want, c.e)
		}
	}
	if l, e := haggle.Plan(tree); e != api.OK || !slices.Equal(l, []int{1, -1, -1, 8, -1, -1, -1, -1, -1}) {
		t.Errorf("Plan = %v, %d", l, e)
	}
}

// P4.3: a leaf alone has one plan; and Worths at the limits.
func TestPlansOfLeaves(t *testing.T) {
	for _, worth := range []int{-100, 0, 7, 100} {
		for n := 1; n <= 3; n++ {
			tree := chain(n, worth)
			plan, e := haggle.Plan(tree)
			want := []int{1, -1, -1}[:n]
			want[n-1] = -1
			if m, f := haggle.Check(tree, want); e != api.OK || !slices.Equal(plan, want) || f != api.OK || m != worth {
				t.Errorf("Plan(%v) = %v, %d, Check = %d, %d", tree, plan, e, m, f)
			}
		}
		for _, wrong := range []int{0, 1, -2} {
			if n, e := haggle.Check(chain(1, worth), []int{wrong}); n != 0 || e != api.ErrAnswer {
				t.Errorf("Check of %d: %d, %d", wrong, n, e)
			}
		}
	}
}
