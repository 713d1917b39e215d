package draw_test

import (
	"math/big"
	"math/rand/v2"
	"reflect"
	"slices"
	"testing"

	"galloon/api"
	"galloon/draw"
)

// table tells of pairs of states whether the first is sent to the second.
type table [api.MaxStates][api.MaxStates]bool

// once tells which states one draw sends where.
func once(box api.Box) table {
	var t table
	for _, list := range box.Maps {
		for state, to := range list {
			t[state][to] = true
		}
	}
	return t
}

// then joins two tables.
func (t table) then(u table) table {
	var both table
	for p := range t {
		for q := range u {
			for r := range u[q] {
				both[p][r] = both[p][r] || t[p][q] && u[q][r]
			}
		}
	}
	return both
}

// none is the table of no draws.
func none() table {
	var t table
	for state := range t {
		t[state][state] = true
	}
	return t
}

// leading tells which states lead where: by 0 to MaxDraws draws.
func leading(box api.Box) table {
	step := once(box)
	for state := range step {
		step[state][state] = true
	}
	t := none()
	for range api.MaxDraws {
		t = t.then(step)
	}
	return t
}

// finalOf returns all sets of states each of which leads to all others of it, and to no state outside.
func finalOf(box api.Box) [][]int {
	leads := leading(box)
	var classes [][]int
	for set := 1; set < 1<<states(box); set++ {
		var class []int
		is := true
		for state := range states(box) {
			if set>>state&1 == 0 {
				continue
			}
			class = append(class, state)
			for other := range states(box) {
				is = is && leads[state][other] == (set>>other&1 == 1)
			}
		}
		if is {
			classes = append(classes, class)
		}
	}
	slices.SortFunc(classes, func(a, b []int) int { return a[0] - b[0] })
	return classes
}

// P7.3: Final, for all small boxes and for others.
func TestFinal(t *testing.T) {
	numbers, outside := map[int]bool{}, 0
	for box := range boxes {
		want := finalOf(box)
		got, e := draw.Final(box)
		if !reflect.DeepEqual(got, want) || e != api.OK {
			t.Fatalf("Final(%v) = %v, %d, want %v", box, got, e, want)
		}
		numbers[len(want)] = true
		if len(slices.Concat(want...)) < states(box) {
			outside++
		}
	}
	if len(numbers) < api.MaxStates || outside < 500 {
		t.Errorf("the numbers of classes are only %v; %d boxes have states outside", numbers, outside)
	}
}

// returnsOf returns for each state the greatest common divisor of the numbers of draws that send it to itself.
func returnsOf(box api.Box) []int {
	list := make([]int, states(box))
	reached := none()
	for number := int64(1); number <= api.MaxDraws; number++ {
		reached = reached.then(once(box))
		for state := range list {
			if reached[state][state] {
				common := new(big.Int).GCD(nil, nil, big.NewInt(int64(list[state])), big.NewInt(number))
				list[state] = int(common.Int64())
			}
		}
	}
	return list
}

// P7.3: Returns, for all small boxes and for others.
func TestReturns(t *testing.T) {
	found := map[int]bool{}
	for box := range boxes {
		want := returnsOf(box)
		got, e := draw.Returns(box)
		if !slices.Equal(got, want) || e != api.OK {
			t.Fatalf("Returns(%v) = %v, %d, want %v", box, got, e, want)
		}
		for _, number := range want {
			found[number] = true
		}
	}
	if len(found) != api.MaxStates+1 {
		t.Errorf("Returns has only given %v", found)
	}
}

// P7.3: classes and returns that are known.
func TestKnownClasses(t *testing.T) {
	for _, c := range []struct {
		box     api.Box
		final   [][]int
		returns []int
	}{
		{swap(), [][]int{{0, 1}}, []int{2, 2}}, {coin(), [][]int{{0, 1}}, []int{1, 1}}, {walk(), [][]int{{0, 1, 2}}, []int{1, 1, 1}},
		{boxOf([]int{0, 0, 2}), [][]int{{0}, {2}}, []int{1, 0, 1}}, {boxOf([]int{0}), [][]int{{0}}, []int{1}},
		{boxOf([]int{6, 5, 4, 3, 2, 1, 0}), [][]int{{0, 6}, {1, 5}, {2, 4}, {3}}, []int{2, 2, 2, 1, 2, 2, 2}},
		{boxOf([]int{6, 0, 1, 2, 3, 4, 6}), [][]int{{6}}, []int{0, 0, 0, 0, 0, 0, 1}},
		{boxOf([]int{1, 2, 3, 4, 5, 6, 0}), [][]int{{0, 1, 2, 3, 4, 5, 6}}, []int{7, 7, 7, 7, 7, 7, 7}},
		// Ways of 3 and 4 steps lead back, or of 2 and 4.
		{boxOf([]int{1, 2, 3, 0}, []int{1, 2, 0, 0}), [][]int{{0, 1, 2, 3}}, []int{1, 1, 1, 1}},
		{boxOf([]int{1, 2, 3, 0}, []int{1, 0, 3, 0}), [][]int{{0, 1, 2, 3}}, []int{2, 2, 2, 2}},
		{boxOf([]int{1, 2, 3, 4, 5, 0}, []int{1, 2, 0, 4, 5, 0}), [][]int{{0, 1, 2, 3, 4, 5}}, []int{3, 3, 3, 3, 3, 3}},
		{boxOf([]int{1, 2, 3, 4, 5, 6, 0}, []int{1, 2, 3, 4, 5, 0, 0}), [][]int{{0, 1, 2, 3, 4, 5, 6}}, []int{1, 1, 1, 1, 1, 1, 1}},
		// The states 0 and 1 lead to each other, and out of their class.
		{boxOf([]int{1, 0, 2, 3}, []int{1, 2, 2, 3}), [][]int{{2}, {3}}, []int{2, 2, 1, 1}},
		{boxOf([]int{1, 0, 3, 2}, []int{1, 3, 3, 2}), [][]int{{2, 3}}, []int{2, 2, 2, 2}},
	} {
		if got, e := draw.Final(c.box); !reflect.DeepEqual(got, c.final) || e != api.OK {
			t.Errorf("Final(%v) = %v, %d, want %v", c.box, got, e, c.final)
		}
		if got, e := draw.Returns(c.box); !slices.Equal(got, c.returns) || e != api.OK {
			t.Errorf("Returns(%v) = %v, %d, want %v", c.box, got, e, c.returns)
		}
	}
}

// P7.3: a cycle of each length, whose states are in any order, with the others before it.
func TestCycles(t *testing.T) {
	r := rand.New(rand.NewPCG(7, 3))
	for n := 1; n <= api.MaxStates; n++ {
		for length := 1; length <= n; length++ {
			order := r.Perm(n)
			list := make([]int, n)
			want := make([]int, n)
			for i, state := range order {
				list[state] = order[(i+1)%n]
				if i < length {
					want[state] = length
				}
			}
			list[order[length-1]] = order[0]
			list[order[n-1]] = order[0]
			class := slices.Sorted(slices.Values(order[:length]))
			if got, e := draw.Returns(boxOf(list)); !slices.Equal(got, want) || e != api.OK {
				t.Fatalf("Returns(%v) = %v, %d, want %v", list, got, e, want)
			}
			if got, e := draw.Final(boxOf(list)); !reflect.DeepEqual(got, [][]int{class}) || e != api.OK {
				t.Fatalf("Final(%v) = %v, %d, want %v", list, got, e, class)
			}
		}
	}
}

// P7.6: if Rank is 1, there is exactly one final class.
func TestRankAndFinal(t *testing.T) {
	for box := range boxes {
		rank, e := draw.Rank(box)
		classes, f := draw.Final(box)
		if e != api.OK || f != api.OK || rank == 1 && len(classes) != 1 || rank < len(classes) {
			t.Fatalf("Rank(%v) = %d, Final %v", box, rank, classes)
		}
	}
}
