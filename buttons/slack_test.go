package buttons_test

import (
	"reflect"
	"slices"
	"testing"

	"galloon/api"
	"galloon/buttons"
)

// smallestWith returns the smallest total of all assignments that put the button into the hole.
func smallestWith(costs [][]int, button, hole int) int {
	for _, l := range ordered(costs) {
		if l[button] == hole {
			return totalOf(costs, l)
		}
	}
	panic("each hole is free for each button")
}

// fixedOf returns the holes that are the same in all cheapest assignments.
func fixedOf(costs [][]int) []int {
	list := ordered(costs)
	fixed := slices.Clone(list[0])
	for _, l := range list {
		if totalOf(costs, l) > totalOf(costs, list[0]) {
			break
		}
		for i := range fixed {
			if l[i] != list[0][i] {
				fixed[i] = -1
			}
		}
	}
	return fixed
}

// P2.3 for small costs, and for larger ones.
func TestSlackByDefinition(t *testing.T) {
	for _, costs := range slices.Concat(smallCosts(), largerCosts(6), largerCosts(7)[180:186]) {
		best := totalOf(costs, ordered(costs)[0])
		want := costsBy(len(costs), func(i, j int) int { return smallestWith(costs, i, j) - best })
		if slack, e := buttons.Slack(costs); e != api.OK || !reflect.DeepEqual(slack, want) {
			t.Fatalf("Slack(%v) = %v, %d, want %v", costs, slack, e, want)
		}
	}
}

func TestFixedByDefinition(t *testing.T) {
	for _, costs := range slices.Concat(smallCosts(), allCosts(3, -1, 0, 2), largerCosts(7)) {
		want := fixedOf(costs)
		if fixed, e := buttons.Fixed(costs); e != api.OK || !slices.Equal(fixed, want) {
			t.Fatalf("Fixed(%v) = %v, %d, want %v", costs, fixed, e, want)
		}
	}
}

// P2.3: one button has one hole; some are fixed, and others are not, among two holes or more.
func TestEdgesOfSlack(t *testing.T) {
	for _, c := range []struct {
		costs, slack [][]int
		fixed        []int
	}{
		{[][]int{{-7}}, [][]int{{0}}, []int{0}},
		{[][]int{{1, 2}, {3, 5}}, [][]int{{1, 0}, {0, 1}}, []int{1, 0}},
		{[][]int{{0, 0}, {0, 0}}, [][]int{{0, 0}, {0, 0}}, []int{-1, -1}},
		{[][]int{{-1000, 1000}, {1000, -1000}}, [][]int{{0, 4000}, {4000, 0}}, []int{0, 1}},
		{[][]int{{1, 1, 0}, {0, 0, 0}, {0, 0, 0}}, [][]int{{1, 1, 0}, {0, 0, 1}, {0, 0, 1}}, []int{2, -1, -1}},
		{[][]int{{0, 0, 0}, {0, 0, 0}, {0, 0, 0}}, [][]int{{0, 0, 0}, {0, 0, 0}, {0, 0, 0}}, []int{-1, -1, -1}},
	} {
		if slack, e := buttons.Slack(c.costs); e != api.OK || !reflect.DeepEqual(slack, c.slack) {
			t.Errorf("Slack(%v) = %v, %d, want %v", c.costs, slack, e, c.slack)
		}
		if fixed, e := buttons.Fixed(c.costs); e != api.OK || !slices.Equal(fixed, c.fixed) {
			t.Errorf("Fixed(%v) = %v, %d, want %v", c.costs, fixed, e, c.fixed)
		}
	}
}
