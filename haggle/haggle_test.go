package haggle_test

import (
	"math"
	"reflect"
	"slices"
	"testing"

	"galloon/api"
	"galloon/haggle"
)

// call is what every function is called with.
type call struct {
	tree   []api.Move
	leaves []int
	plan   []int
	b      int
}

// results calls every function, and lists what each one returns.
func (c call) results() [][]any {
	list := func(values ...any) []any { return values }
	number := func(n int, e api.Errno) []any { return list(n, e) }
	ints := func(l []int, e api.Errno) []any { return list(l, e) }
	moves := func(l []api.Move, e api.Errno) []any { return list(l, e) }
	value, visited, e := haggle.Search(c.tree)
	is, f := haggle.Decides(c.tree, c.leaves, c.b)
	n, m, g := haggle.Numbers(c.tree, c.leaves, c.b)
	return [][]any{
		number(haggle.Value(c.tree)), ints(haggle.Values(c.tree)), ints(haggle.Line(c.tree)), list(value, visited, e),
		ints(haggle.Proof(c.tree, c.b)), ints(haggle.Refute(c.tree, c.b)), list(is, f), ints(haggle.Plan(c.tree)),
		number(haggle.Check(c.tree, c.plan)), number(haggle.Plans(c.tree)), list(n, m, g),
		moves(haggle.Sorted(c.tree)), moves(haggle.Turned(c.tree)),
	}
}

// calls returns calls with right and with wrong arguments.
func calls() []call {
	var list []call
	for i, tree := range slices.Concat(allTrees(4, 0, 1), largerTrees(), noTrees()) {
		leaves := leavesOf(tree)
		// Room beyond their ends shows whether somebody appends to them.
		spare := slices.Grow(leaves, 9)[:len(leaves)/2]
		list = append(list,
			call{tree, spare, slices.Repeat([]int{-1}, len(tree)), i%5 - 2},
			call{tree, leaves, []int{1, -1, 4}, 2000 * (i % 2)},
			call{tree, []int{0, 0}, nil, -1})
		if isTree(tree) {
			list = append(list, call{tree, nil, lastPlan(tree), 0})
		}
	}
	return list
}

// lastPlan returns a plan with the last child at each of its nodes.
func lastPlan(tree []api.Move) []int {
	plan := slices.Repeat([]int{-1}, len(tree))
	var choose func(node, depth int)
	choose = func(node, depth int) {
		children := tree[node].Children
		if depth%2 == 0 && len(children) > 0 {
			children = children[len(children)-1:]
			plan[node] = children[0]
		}
		for _, child := range children {
			choose(child, depth+1)
		}
	}
	choose(0, 0)
	return plan
}

// isEmpty tells whether a result is its zero value, or an empty list.
func isEmpty(value any) bool {
	v := reflect.ValueOf(value)
	return v.Kind() == reflect.Slice && v.Len() == 0 || v.Kind() != reflect.Slice && v.IsZero()
}

// P1 and the errors: lists that are no trees lead to ErrArg and zero values, in every function, whatever else is wrong.
func TestNoTrees(t *testing.T) {
	for _, tree := range noTrees() {
		if isTree(tree) {
			t.Fatalf("%.200v is a tree", tree)
		}
		for _, c := range []call{
			{tree, nil, nil, 0},
			{tree, []int{0}, []int{-1}, 0},
			{tree, leavesOf(tree), slices.Repeat([]int{-1}, len(tree)), 1000},
			{tree, []int{5, -5}, []int{math.MinInt}, math.MaxInt},
			{tree, []int{math.MaxInt}, []int{math.MaxInt, 0}, math.MinInt},
		} {
			for i, result := range c.results() {
				last := len(result) - 1
				if result[last] != api.ErrArg || slices.ContainsFunc(result[:last], func(value any) bool { return !isEmpty(value) }) {
					t.Fatalf("function %d of %.200v: %v", i, c.tree, result)
				}
			}
		}
	}
}

// lists returns all lists of at most most numbers from first to last.
func lists(most, first, last int) [][]int {
	all := [][]int{nil}
	begin := 0
	for range most {
		end := len(all)
		for _, list := range all[begin:end] {
			for number := first; number <= last; number++ {
				all = append(all, append(slices.Clone(list), number))
			}
		}
		begin = end
	}
	return all
}

// Rule 1 and P1: of all short lists of moves, every function accepts exactly the trees.
func TestTreesByDefinition(t *testing.T) {
	for n := 1; n <= 3; n++ {
		all := [][]api.Move{nil}
		for range n {
			var longer [][]api.Move
			for _, before := range all {
				for _, children := range lists(2, -1, n) {
					longer = append(longer, append(slices.Clone(before), api.Move{Children: children}))
				}
			}
			all = longer
		}
		for _, tree := range all {
			_, e := haggle.Value(tree)
			if is := isTree(tree); is && e != api.OK || !is && e != api.ErrArg {
				t.Fatalf("Value(%v): %d", tree, e)
			}
		}
	}
}

// Trees of all sizes up to MaxMoves, with numbers from -MaxWorth to MaxWorth, are trees in every function.
func TestLimitsOfTrees(t *testing.T) {
	for _, worth := range []int{-api.MaxWorth, api.MaxWorth} {
		for n := 1; n <= api.MaxMoves; n++ {
			for _, shape := range [][]api.Move{chain(n, 0), evenTree(n, 2), evenTree(n, 60), caterpillar(n)} {
				tree := worthBy(shape, func(leaf int) int { return worth })
				for i, result := range (call{tree, leavesOf(tree), lastPlan(tree), worth}).results() {
					isTurned := i == 12 && n == api.MaxMoves
					if e := result[len(result)-1]; e != api.OK && !isTurned {
						t.Fatalf("function %d of %v: error %v", i, tree, e)
					}
				}
			}
		}
	}
}

// P2 and rule 5: the same call returns the same, whatever is called, and done with results, in between.
func TestRepeatedCalls(t *testing.T) {
	var before [][][]any
	list := calls()
	for _, c := range list {
		before = append(before, c.results())
		for _, result := range c.results() {
			for _, value := range result {
				spoil(value)
			}
		}
	}
	for i, again := range calls() {
		if !reflect.DeepEqual(list[i], again) || !slices.Equal(list[i].leaves[:cap(list[i].leaves)], again.leaves[:cap(again.leaves)]) {
			t.Fatalf("the arguments %v have become %v", again, list[i])
		}
		if results := again.results(); !reflect.DeepEqual(before[i], results) {
			t.Fatalf("%v: first %v, then %v", again, before[i], results)
		}
	}
}

// spoil overwrites a result to the end of its memory, which is nobody else's.
func spoil(value any) {
	switch x := value.(type) {
	case []int:
		x = x[:cap(x)]
		for i := range x {
			x[i] = -7
		}
	case []api.Move:
		x = x[:cap(x)]
		for i := range x {
			spoil(x[i].Children)
			x[i] = api.Move{Worth: -7}
		}
	}
}

// Rule 5: the children of each node of a result are a list of their own, beyond their ends as well.
func TestOwnMemory(t *testing.T) {
	for _, tree := range slices.Concat(allTrees(5, 0), largerTrees()) {
		for _, change := range []func([]api.Move) ([]api.Move, api.Errno){haggle.Sorted, haggle.Turned} {
			result, _ := change(tree)
			want := cloneOf(result)
			for node := range result {
				if !slices.Equal(result[node].Children, want[node].Children) {
					t.Fatalf("of %v: the children of %d share memory with others", tree, node)
				}
				spoil(result[node].Children)
			}
		}
	}
}
