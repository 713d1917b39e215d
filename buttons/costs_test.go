package buttons_test

import (
	"math"
	"math/rand/v2"
	"slices"
	"sort"

	"galloon/api"
)

// The helpers in this file follow the chapter's definitions literally, and share no code with the package.

// allCosts returns all costs of n buttons that consist of the given numbers.
func allCosts(n int, numbers ...int) [][][]int {
	all := [][]int{nil}
	for range n * n {
		var longer [][]int
		for _, flat := range all {
			for _, number := range numbers {
				longer = append(longer, append(slices.Clone(flat), number))
			}
		}
		all = longer
	}
	var list [][][]int
	for _, flat := range all {
		list = append(list, slices.Collect(slices.Chunk(flat, n)))
	}
	return list
}

// smallCosts returns all costs of few buttons with few different numbers.
func smallCosts() [][][]int {
	return slices.Concat(allCosts(1, -1000, -1, 0, 7, 1000), allCosts(2, -1000, -1, 0, 1, 1000), allCosts(3, 0, 1), allCosts(2, 1, 2, 4))
}

// costsBy returns costs of n buttons by a formula.
func costsBy(n int, cost func(i, j int) int) [][]int {
	var costs [][]int
	for i := range n {
		var row []int
		for j := range n {
			row = append(row, cost(i, j))
		}
		costs = append(costs, row)
	}
	return costs
}

// largerCosts returns costs of 3 to most buttons: with patterns, with many equal numbers, and with few.
func largerCosts(most int) [][][]int {
	var list [][][]int
	random := rand.New(rand.NewPCG(3, 4))
	for n := 3; n <= most; n++ {
		list = append(list,
			costsBy(n, func(i, j int) int { return 0 }),
			costsBy(n, func(i, j int) int { return -1000 }),
			costsBy(n, func(i, j int) int { return i * j }),
			costsBy(n, func(i, j int) int { return -i * j }),
			costsBy(n, func(i, j int) int { return (i - j) * (i - j) }),
			costsBy(n, func(i, j int) int { return 1000 - (i-j)*(i-j) }),
			costsBy(n, func(i, j int) int { return 1000 * ((i + j) % 2) }),
			costsBy(n, func(i, j int) int { return 1000 - 2000*((i+2*j)%3/2) }),
			costsBy(n, func(i, j int) int { return min(1, (i+1)%n^j) * 1000 }),
			costsBy(n, func(i, j int) int { return min(1, (j+1)%n^i)*2000 - 1000 }),
		)
		for range 8 {
			for _, span := range []int{1, 2, 4, 20, 1000} {
				list = append(list, costsBy(n, func(i, j int) int { return random.IntN(2*span+1) - span }))
			}
		}
	}
	return list
}

// noCosts are lists that are no costs: of a wrong size, or with a number out of range.
func noCosts() [][][]int {
	list := [][][]int{
		nil,
		{},
		{nil},
		{{}},
		{{1, 2}},
		{{1}, {2}},
		{{1, 2}, nil},
		{nil, {1, 2}},
		{{1, 2}, {3}},
		{{1}, {2, 3}},
		{{1, 2}, {3, 4, 5}},
		{{1, 2, 3}, {4, 5, 6}},
		{{1, 2}, {3, 4}, {5, 6}},
		{{1, 2}, {3, 4}, {}},
		costsBy(8, func(i, j int) int { return i + j }),
		costsBy(8, func(i, j int) int { return i + j })[:7],
		costsBy(300, func(i, j int) int { return 1 }),
		make([][]int, 1<<16),
		{make([]int, 1<<16)},
		{{1, 2}, make([]int, 1<<16)},
	}
	for _, number := range []int{1001, -1001, math.MaxInt, math.MinInt, 1 << 32} {
		for n := 1; n <= 7; n++ {
			for _, place := range [][2]int{{0, 0}, {0, n - 1}, {n - 1, 0}, {n - 1, n - 1}} {
				costs := costsBy(n, func(i, j int) int { return i - j })
				costs[place[0]][place[1]] = number
				list = append(list, costs)
			}
		}
	}
	return list
}

// noAssignments are lists that are no assignments of n buttons.
func noAssignments(n int) [][]int {
	var list [][]int
	for button := range n {
		for _, hole := range []int{-1, n, n + 1, 7, 8, 63, 64, 1 << 32, math.MinInt, math.MaxInt} {
			if hole >= 0 && hole < n {
				continue
			}
			wrong := slices.Clone(permutations(n)[0])
			wrong[button] = hole
			list = append(list, wrong)
		}
		for other := range n {
			if other != button {
				wrong := slices.Clone(permutations(n)[0])
				wrong[button] = other
				list = append(list, wrong)
			}
		}
	}
	return append(list, nil, []int{}, permutations(n)[0][:n-1], append(slices.Clone(permutations(n)[0]), n), append(slices.Clone(permutations(n)[0]), 0), make([]int, 1<<16))
}

var known = map[int][][]int{}

// permutations returns all lists of n different numbers from 0 to n - 1, in lexicographic order.
func permutations(n int) [][]int {
	if list := known[n]; list != nil {
		return list
	}
	lists := [][]int{nil}
	for range n {
		var longer [][]int
		for _, list := range lists {
			for hole := range n {
				if !slices.Contains(list, hole) {
					longer = append(longer, append(slices.Clone(list), hole))
				}
			}
		}
		lists = longer
	}
	known[n] = lists
	return lists
}

func isPermutation(list []int, n int) bool {
	for _, p := range permutations(n) {
		if slices.Equal(p, list) {
			return true
		}
	}
	return false
}

func totalOf(costs [][]int, assignment []int) int {
	total := 0
	for i, j := range assignment {
		total += costs[i][j]
	}
	return total
}

func widthOf(costs [][]int, assignment []int) int {
	width := math.MinInt
	for i, j := range assignment {
		width = max(width, costs[i][j])
	}
	return width
}

// ordered returns all assignments in the order.
func ordered(costs [][]int) [][]int {
	list := slices.Clone(permutations(len(costs)))
	sort.Slice(list, func(a, b int) bool {
		s, t := totalOf(costs, list[a]), totalOf(costs, list[b])
		if s != t {
			return s < t
		}
		return slices.Compare(list[a], list[b]) < 0
	})
	return list
}

// proves tells whether u and v are prices that prove the assignment.
func proves(costs [][]int, assignment, u, v []int) bool {
	if !isPermutation(assignment, len(costs)) || len(u) != len(costs) || len(v) != len(costs) {
		return false
	}
	total := 0
	for _, price := range slices.Concat(u, v) {
		if price < -1000000 || price > 1000000 {
			return false
		}
		total += price
	}
	for i := range u {
		for j := range v {
			if u[i]+v[j] > costs[i][j] {
				return false
			}
		}
	}
	return total == totalOf(costs, assignment)
}

// isBlockOf tells whether the list is a block for w.
func isBlockOf(costs [][]int, w int, block []int) bool {
	holes := map[int]bool{}
	for k, i := range block {
		if i < 0 || i >= len(costs) || k > 0 && i <= block[k-1] {
			return false
		}
		for j, cost := range costs[i] {
			if cost <= w {
				holes[j] = true
			}
		}
	}
	return len(block) > 0 && len(holes) < len(block)
}

func transposed(costs [][]int) [][]int {
	return costsBy(len(costs), func(i, j int) int { return costs[j][i] })
}

// answer returns OK or ErrAnswer.
func answer(is bool) api.Errno {
	if is {
		return api.OK
	}
	return api.ErrAnswer
}
