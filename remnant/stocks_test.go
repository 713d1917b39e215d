package remnant_test

import (
	"cmp"
	"math/rand/v2"
	"slices"

	"galloon/api"
)

// This file says what the chapter's terms mean, in the chapter's words. It shares no code with the package.

// arePieces tells whether these are pieces for the room.
func arePieces(room int, pieces []int) bool {
	if room < 1 || room > api.MaxRoom || len(pieces) > api.MaxPieces {
		return false
	}
	return !slices.ContainsFunc(pieces, func(size int) bool { return size < 1 || size > room })
}

// isPacking: in which a box is used only if all boxes with smaller numbers are used by pieces before.
func isPacking(pieces, packing []int) bool {
	return !slices.Contains(packing, -1) && isNumbered(pieces, packing)
}

// isNumbered tells whether it is a packing of some of the pieces, with -1 for the others.
func isNumbered(pieces, list []int) bool {
	if len(list) != len(pieces) {
		return false
	}
	for i, box := range list {
		if box < -1 || box >= len(list) {
			return false
		}
		for smaller := range max(0, box) {
			if !slices.Contains(list[:i], smaller) {
				return false
			}
		}
	}
	return true
}

// boxCount returns the number of boxes that are used.
func boxCount(list []int) int {
	used := map[int]bool{}
	for _, box := range list {
		if box >= 0 {
			used[box] = true
		}
	}
	return len(used)
}

// loadsOf returns the sum of the sizes of the pieces of each box.
func loadsOf(pieces, list []int) []int {
	var loads []int
	for box := range boxCount(list) {
		load := 0
		for i, size := range pieces {
			if list[i] == box {
				load += size
			}
		}
		loads = append(loads, load)
	}
	return loads
}

// isRight: no load is greater than the room.
func isRight(room int, pieces, packing []int) bool {
	return !slices.ContainsFunc(loadsOf(pieces, packing), func(load int) bool { return load > room })
}

// isFull: every box has a load of at least the room.
func isFull(room int, pieces, list []int) bool {
	return !slices.ContainsFunc(loadsOf(pieces, list), func(load int) bool { return load < room })
}

// packings visits all packings of n pieces, whatever their sizes are; least is -1 if pieces may be in no box, or 0.
// The visitor must not keep the list.
func packings(n, least int) func(yield func([]int) bool) {
	return func(yield func([]int) bool) {
		list := make([]int, n)
		var place func(i, count int) bool
		place = func(i, count int) bool {
			if i == n {
				return yield(list)
			}
			for box := least; box <= count; box++ {
				list[i] = box
				if !place(i+1, max(count, box+1)) {
					return false
				}
			}
			return true
		}
		place(0, 0)
	}
}

// sets visits the positions, in ascending order, of all sets of n pieces, in no special order.
func sets(n int) func(yield func([]int) bool) {
	return func(yield func([]int) bool) {
		for number := range 1 << n {
			var set []int
			for i := range n {
				if number&(1<<i) != 0 {
					set = append(set, i)
				}
			}
			if !yield(set) {
				return
			}
		}
	}
}

// lessSet tells whether a list is lexicographically smaller than another one.
func lessSet(a, b []int) bool {
	for i := range min(len(a), len(b)) {
		if a[i] != b[i] {
			return a[i] < b[i]
		}
	}
	return len(a) < len(b)
}

// sumOf returns the sum of the sizes of these pieces.
func sumOf(pieces, set []int) int {
	sum := 0
	for _, i := range set {
		sum += pieces[i]
	}
	return sum
}

// upTo lists the numbers from first to last.
func upTo(first, last int) []int {
	var list []int
	for i := first; i <= last; i++ {
		list = append(list, i)
	}
	return list
}

// total returns the sum of all sizes.
func total(pieces []int) int {
	return sumOf(pieces, upTo(0, len(pieces)-1))
}

// tuples visits all lists of n numbers from least to most.
func tuples(n, least, most int) func(yield func([]int) bool) {
	return func(yield func([]int) bool) {
		list := slices.Repeat([]int{least}, n)
		for yield(slices.Clone(list)) {
			i := n - 1
			for i >= 0 && list[i] == most {
				list[i] = least
				i--
			}
			if i < 0 {
				return
			}
			list[i]++
		}
	}
}

// stock is pieces and the room of the boxes for them.
type stock struct {
	room   int
	pieces []int
}

// smallStocks visits all of few pieces for small rooms.
func smallStocks(yield func(stock) bool) {
	for room := 1; room <= 7; room++ {
		most := 5
		if room > 5 {
			most = 4
		}
		for n := range most + 1 {
			for pieces := range tuples(n, 1, room) {
				if !yield(stock{room, pieces}) {
					return
				}
			}
		}
	}
}

// patterned returns pieces of patterns that make packing hard.
func patterned(n, room, pattern int, random *rand.Rand) []int {
	pieces := make([]int, n)
	near := func(size, by int) int { return size - by + random.IntN(2*by+1) }
	for i := range pieces {
		size := 1 + random.IntN(room)
		switch pattern {
		case 1:
			size = near(room/2, 2)
		case 2:
			size = near(room/3, 2)
		case 3:
			size = []int{room/2 + 1, room/4 + 2, room/4 + 1, room/4 - 2}[i%4]
		case 4:
			size = 1 + random.IntN(room/3+1)
		case 5:
			if i%2 == 1 {
				size = room - pieces[i-1]
			}
		case 6:
			size = []int{room/7 + 1, room/3 + 1, room/2 + 1}[random.IntN(3)]
		case 7:
			size = room - random.IntN(room/4+1)
		}
		pieces[i] = max(1, min(size, room))
	}
	random.Shuffle(n, func(i, j int) {
		if pattern%2 == 1 {
			pieces[i], pieces[j] = pieces[j], pieces[i]
		}
	})
	return pieces
}

// stocksOf returns seeded stocks with so many pieces each, at rooms up to the greatest.
func stocksOf(n, times int) []stock {
	random := rand.New(rand.NewPCG(uint64(n), 9))
	var list []stock
	for range times {
		for _, room := range []int{1, 2, 3, 7, 8, 10, 11, 50, 99, 100, 1 + random.IntN(100)} {
			for pattern := range 8 {
				list = append(list, stock{room, patterned(n, room, pattern, random)})
			}
		}
	}
	return list
}

// largerStocks returns stocks of six to eight pieces.
func largerStocks() []stock {
	return slices.Concat(stocksOf(6, 3), stocksOf(7, 2), stocksOf(8, 1))
}

// fullStocks returns stocks of up to MaxPieces pieces.
func fullStocks() []stock {
	return slices.Concat(stocksOf(9, 1), stocksOf(10, 1), stocksOf(11, 1), stocksOf(12, 2))
}

// fewestBoxes returns the smallest number of boxes of right packings, by putting every piece everywhere.
func fewestBoxes(s stock) int {
	fewest := len(s.pieces)
	var loads []int
	var place func(i int)
	place = func(i int) {
		if len(loads) > fewest {
			return
		}
		if i == len(s.pieces) {
			fewest = len(loads)
			return
		}
		for box := range loads {
			if loads[box]+s.pieces[i] <= s.room {
				loads[box] += s.pieces[i]
				place(i + 1)
				loads[box] -= s.pieces[i]
			}
		}
		loads = append(loads, s.pieces[i])
		place(i + 1)
		loads = loads[:len(loads)-1]
	}
	place(0)
	return fewest
}

// ordered returns the positions of the pieces in descending order of the sizes, pieces of one size in their order.
func ordered(pieces []int) []int {
	order := upTo(0, len(pieces)-1)
	slices.SortFunc(order, func(i, j int) int {
		return cmp.Or(cmp.Compare(pieces[j], pieces[i]), cmp.Compare(i, j))
	})
	return order
}
