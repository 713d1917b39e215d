package buttons_test

import (
	"math"
	"reflect"
	"slices"
	"testing"

	"galloon/api"
	"galloon/buttons"
)

// call is what every function is called with.
type call struct {
	costs            [][]int
	assignment, u, v []int
	number           int
	block            []int
}

// results calls every function, and lists what each one returns.
func (c call) results() [][]any {
	list := func(values ...any) []any { return values }
	pair := func(value any, e api.Errno) []any { return list(value, e) }
	ints := func(values []int, e api.Errno) []any { return pair(values, e) }
	number := func(value int, e api.Errno) []any { return pair(value, e) }
	best, u, v, e := buttons.Best(c.costs)
	slack, f := buttons.Slack(c.costs)
	narrow, width, block, g := buttons.Narrow(c.costs)
	is, h := buttons.IsBlock(c.costs, c.number, c.block)
	return [][]any{
		list(best, u, v, e), list(buttons.Check(c.costs, c.assignment, c.u, c.v)),
		number(buttons.Total(c.costs, c.assignment)), ints(buttons.Item(c.costs, c.number)),
		number(buttons.Index(c.costs, c.assignment)), number(buttons.Within(c.costs, c.number)),
		list(slack, f), ints(buttons.Fixed(c.costs)), list(narrow, width, block, g), list(is, h),
		ints(buttons.Payments(c.costs)), ints(buttons.Greedy(c.costs)),
	}
}

// calls returns calls with right and with wrong arguments, for all costs that are small, and some larger ones.
func calls() []call {
	var list []call
	for i, costs := range slices.Concat(smallCosts(), largerCosts(5), largerCosts(7)[150:160]) {
		n := len(costs)
		l := permutations(n)[i%len(permutations(n))]
		list = append(list,
			call{costs, slices.Clone(l), make([]int, n), slices.Clone(costs[0]), i % 3, permutations(n)[0]},
			call{costs, []int{0, 0}, nil, []int{1}, -1, []int{1, 0}})
	}
	return list
}

// isEmpty tells whether a result is its zero value, or an empty list.
func isEmpty(value any) bool {
	v := reflect.ValueOf(value)
	return v.Kind() == reflect.Slice && v.Len() == 0 || v.Kind() != reflect.Slice && v.IsZero()
}

// P1 and the errors: costs that are none lead to ErrArg and zero values, in every function, whatever else is wrong.
func TestNoCosts(t *testing.T) {
	for _, costs := range noCosts() {
		for _, c := range []call{
			{costs, nil, nil, nil, 0, nil},
			{costs, []int{0, 1}, []int{0, 0}, []int{0, 0}, 1, []int{0}},
			{costs, []int{5, -5}, []int{math.MinInt}, []int{math.MaxInt}, math.MinInt, []int{-1, 9}},
		} {
			for i, result := range c.results() {
				last := len(result) - 1
				if result[last] != api.ErrArg {
					t.Errorf("function %d of %.100v: error %v", i, costs, result[last])
				}
				for _, value := range result[:last] {
					if !isEmpty(value) {
						t.Errorf("function %d of %.100v returns %v with an error", i, costs, value)
					}
				}
			}
		}
	}
}

// Costs of all sizes, from -MaxCost to MaxCost, are costs in every function.
func TestLimitsOfCosts(t *testing.T) {
	for n := 1; n <= api.MaxButtons; n++ {
		for _, cost := range []int{-api.MaxCost, api.MaxCost} {
			c := call{costs: costsBy(n, func(i, j int) int { return cost }), assignment: permutations(n)[0], u: make([]int, n), v: make([]int, n)}
			for i, result := range c.results() {
				if e := result[len(result)-1]; e == api.ErrArg {
					t.Errorf("function %d of %v: ErrArg", i, c.costs)
				}
			}
		}
	}
}

// P2.6: to add a number to all costs of a button, or of a hole, changes neither the order nor the slack.
func TestAddedNumbers(t *testing.T) {
	for round, costs := range slices.Concat(allCosts(2, -1, 0, 3), allCosts(3, 0, 1), largerCosts(5)) {
		n := len(costs)
		line, number := round%n, []int{-7, 1, 13, 500}[round%4]
		at := func(i int) int {
			if i == line {
				return number
			}
			return 0
		}
		half := costsBy(n, func(i, j int) int { return costs[i][j] / 2 })
		checkAdded(t, half, costsBy(n, func(i, j int) int { return half[i][j] + at(i) }), number)
		checkAdded(t, half, costsBy(n, func(i, j int) int { return half[i][j] + at(j) }), number)
	}
}

func checkAdded(t *testing.T, costs, added [][]int, more int) {
	t.Helper()
	for k := range permutations(len(costs)) {
		l, e := buttons.Item(costs, k)
		m, f := buttons.Item(added, k)
		s, _ := buttons.Total(costs, l)
		u, _ := buttons.Total(added, l)
		if e != api.OK || f != api.OK || !slices.Equal(l, m) || u != s+more {
			t.Fatalf("assignment %d of %v is %v with the total %d, of %v it is %v with %d", k, costs, l, s, added, m, u)
		}
	}
	l, _ := buttons.Slack(costs)
	m, e := buttons.Slack(added)
	if e != api.OK || !reflect.DeepEqual(l, m) {
		t.Fatalf("Slack(%v) = %v, but Slack(%v) = %v", costs, l, added, m)
	}
}

// P2.6: Item and Index correspond, nothing is cheaper than Best, and the totals ascend.
func TestItemsAndBest(t *testing.T) {
	for _, costs := range slices.Concat(smallCosts(), largerCosts(5)) {
		best, _, _, _ := buttons.Best(costs)
		last, _ := buttons.Total(costs, best)
		for k := range permutations(len(costs)) {
			l, e := buttons.Item(costs, k)
			if n, f := buttons.Index(costs, l); e != api.OK || f != api.OK || n != k {
				t.Fatalf("Item(%v, %d) = %v, %d, but its index is %d, %d", costs, k, l, e, n, f)
			}
			total, _ := buttons.Total(costs, l)
			if total < last || k == 0 && !slices.Equal(l, best) {
				t.Fatalf("Item(%v, %d) = %v with the total %d", costs, k, l, total)
			}
			last = total
		}
	}
}

// P2.6: payments are at least 0, and buttons exchanged with holes leave the totals.
func TestPaymentsAndExchange(t *testing.T) {
	for _, costs := range slices.Concat(smallCosts(), largerCosts(7)) {
		if payments, e := buttons.Payments(costs); e != api.OK || len(payments) != len(costs) || slices.Min(payments) < 0 {
			t.Errorf("Payments(%v) = %v, %d", costs, payments, e)
		}
		exchanged := transposed(costs)
		best, _, _, _ := buttons.Best(costs)
		other, _, _, _ := buttons.Best(exchanged)
		n, _ := buttons.Total(costs, best)
		m, _ := buttons.Total(exchanged, other)
		for most := n - 1; most < n+3; most++ {
			a, e := buttons.Within(costs, most)
			b, f := buttons.Within(exchanged, most)
			if e != api.OK || f != api.OK || n != m || a != b {
				t.Errorf("%v has the total %d, and %d up to %d; exchanged: %d, and %d", costs, n, a, most, m, b)
			}
		}
	}
}

// P2.6: a pair with the slack 0 is in a cheapest assignment.
func TestPairsWithoutSlack(t *testing.T) {
	for _, costs := range slices.Concat(smallCosts(), largerCosts(6)) {
		slack, _ := buttons.Slack(costs)
		best, _, _, _ := buttons.Best(costs)
		for i, line := range slack {
			for j, number := range line {
				if is := smallestWith(costs, i, j) == totalOf(costs, best); number < 0 || is != (number == 0) {
					t.Errorf("the slack of %d, %d in %v is %d", i, j, costs, number)
				}
			}
		}
	}
}

// P2 and rule 5: the same call returns the same, whatever is called, and done with results, in between.
func TestRepeatedCalls(t *testing.T) {
	var before [][][]any
	list := calls()
	for _, c := range list {
		before = append(before, c.results())
		for _, result := range c.results() {
			for _, value := range result {
				spoil(value)
			}
		}
	}
	for i, again := range calls() {
		if !reflect.DeepEqual(list[i], again) {
			t.Fatalf("the arguments %v have become %v", again, list[i])
		}
		if results := again.results(); !reflect.DeepEqual(before[i], results) {
			t.Fatalf("%v: first %v, then %v", again, before[i], results)
		}
	}
}

// spoil overwrites a result to the end of its memory, which is nobody else's.
func spoil(value any) {
	switch x := value.(type) {
	case []int:
		x = x[:cap(x)]
		for i := range x {
			x[i] = -7
		}
	case [][]int:
		for i := range x {
			spoil(x[i])
			x[i] = nil
		}
	}
}

// Rule 5: the lists of one result are each its own, beyond their ends as well.
func TestOwnMemory(t *testing.T) {
	for _, c := range calls() {
		for i, result := range c.results() {
			var lists [][]int
			for _, value := range result {
				switch x := value.(type) {
				case []int:
					lists = append(lists, x)
				case [][]int:
					lists = append(lists, x...)
				}
			}
			for k, list := range lists {
				spoil(list)
				for _, other := range lists[k+1:] {
					if len(other) > 0 && slices.Max(other) == -7 && slices.Min(other) == -7 {
						t.Fatalf("function %d of %v: two lists share memory", i, c.costs)
					}
				}
			}
		}
	}
}
