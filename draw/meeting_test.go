package draw_test

import (
	"iter"
	"slices"
	"testing"

	"galloon/api"
	"galloon/draw"
)

// sendings visits what draws send the states to from the past, and the draws: shorter ones first, those of one length
// in lexicographic order. Of draws that do the same, only the first ones are visited: what begins with others
// does not come first either.
func sendings(box api.Box) iter.Seq2[[]int, []int] {
	type sending struct{ to, draws []int }
	return func(yield func([]int, []int) bool) {
		key := func(to []int) (array [api.MaxStates]int) {
			copy(array[:], to)
			return array
		}
		waiting := []sending{{past(box, nil), nil}}
		seen := map[[api.MaxStates]int]bool{key(waiting[0].to): true}
		for len(waiting) > 0 {
			next := waiting[0]
			waiting = waiting[1:]
			if !yield(next.to, next.draws) {
				return
			}
			for k, list := range box.Maps {
				to := make([]int, len(list))
				for state, sent := range list {
					to[state] = next.to[sent]
				}
				if !seen[key(to)] {
					seen[key(to)] = true
					waiting = append(waiting, sending{to, append(slices.Clone(next.draws), k)})
				}
			}
		}
	}
}

// rankOf returns the smallest size of an image, and the first draws that have it.
func rankOf(box api.Box) (int, []int) {
	rank, first := states(box)+1, []int(nil)
	for to, draws := range sendings(box) {
		if size := len(different(to)); size < rank {
			rank, first = size, draws
		}
		if rank == 1 {
			break
		}
	}
	return rank, first
}

// wantMeeting checks Shortest and Rank.
func wantMeeting(t *testing.T, box api.Box, rank int, first []int) {
	t.Helper()
	errno := api.OK
	if rank > 1 {
		first, errno = nil, api.ErrNone
	}
	if got, e := draw.Shortest(box); !slices.Equal(got, first) || e != errno {
		t.Fatalf("Shortest(%v) = %v, %d, want %v, %d", box, got, e, first, errno)
	}
	if got, e := draw.Rank(box); got != rank || e != api.OK {
		t.Fatalf("Rank(%v) = %d, %d, want %d", box, got, e, rank)
	}
}

// P7.2: Shortest and Rank, for all small boxes and for others, by all that draws do.
func TestMeeting(t *testing.T) {
	ranks, lengths := map[int]bool{}, map[int]bool{}
	for box := range boxes {
		rank, first := rankOf(box)
		wantMeeting(t, box, rank, first)
		ranks[rank] = true
		if rank == 1 {
			lengths[len(first)] = true
		}
	}
	if len(ranks) < api.MaxStates || len(lengths) < 12 {
		t.Errorf("the ranks are only %v, the lengths %v", ranks, lengths)
	}
}

// P7.2: Shortest by trying all draws, in the order of their lengths.
func TestShortestByTrying(t *testing.T) {
	for box := range boxes {
		got, e := draw.Shortest(box)
		if e != api.OK || len(box.Maps) > 2 && len(got) > 4 || len(got) > 8 {
			continue
		}
		var want []int
	search:
		for length := range api.MaxDraws {
			for draws := range tuples(length, len(box.Maps)-1) {
				if len(different(past(box, draws))) == 1 {
					want = draws
					break search
				}
			}
		}
		if !slices.Equal(got, want) {
			t.Fatalf("Shortest(%v) = %v, want %v", box, got, want)
		}
	}
}

// P7.2: the slowest boxes, which meet after the square of their states but one, by only one way.
func TestSlowBoxes(t *testing.T) {
	for n := 2; n <= api.MaxStates; n++ {
		box := slow(n)
		want := []int{1}
		for range n - 2 {
			want = slices.Concat(want, make([]int, n-1), []int{1})
		}
		if len(want) != (n-1)*(n-1) {
			t.Fatalf("%d draws for %d states", len(want), n)
		}
		wantMeeting(t, box, 1, want)
		// The same box, with its maps exchanged and one of them twice.
		other := boxOf(box.Maps[1], box.Maps[0], box.Maps[1])
		for i := range want {
			want[i] = 1 - want[i]
		}
		wantMeeting(t, other, 1, want)
	}
}

// P7.2: the first one of several shortest draws, where the order in which maps are applied matters.
func TestKnownMeeting(t *testing.T) {
	for _, c := range []struct {
		box   api.Box
		rank  int
		first []int
	}{
		{walk(), 1, []int{0, 0}}, {coin(), 1, []int{0}}, {swap(), 2, nil}, {boxOf([]int{0}), 1, nil}, {boxOf([]int{0}, []int{0}), 1, nil},
		{boxOf([]int{0, 1}, []int{1, 1}, []int{0, 0}), 1, []int{1}}, {boxOf([]int{0, 1, 2, 3, 4, 5, 6}), 7, nil}, {boxOf([]int{1, 1, 3, 3, 5, 5, 6}), 4, nil},
		{boxOf([]int{1, 2, 3, 3}), 1, []int{0, 0, 0}}, {boxOf([]int{0, 0, 2}, []int{0, 2, 2}), 2, nil}, {boxOf([]int{0, 0, 2}, []int{0, 2, 0}), 1, []int{1, 0}},
		{boxOf([]int{1, 2, 1}, []int{1, 2, 2}), 1, []int{1, 0}},
		{boxOf([]int{0, 1, 2, 3}, []int{0, 0, 2, 2}, []int{0, 1, 0, 1}), 1, []int{1, 2}},
		{boxOf([]int{0, 0, 1, 3}, []int{1, 1, 2, 2}, []int{2, 3, 3, 2}), 1, []int{1, 2}},
	} {
		if rank, first := rankOf(c.box); rank != c.rank || rank == 1 && !slices.Equal(first, c.first) {
			t.Errorf("%v: the test expects %d, %v, and finds %d, %v", c.box, c.rank, c.first, rank, first)
		}
		wantMeeting(t, c.box, c.rank, c.first)
	}
}

// P7.2: what Shortest returns meets within its number of steps, and no sooner.
func TestShortestMeets(t *testing.T) {
	for box := range boxes {
		draws, e := draw.Shortest(box)
		rank, f := draw.Rank(box)
		if f != api.OK || (e == api.OK) != (rank == 1) {
			t.Fatalf("Shortest(%v): %d, but Rank is %d, %d", box, e, rank, f)
		}
		if e != api.OK {
			continue
		}
		if steps, _, e := draw.Past(box, draws); steps != len(draws) || e != api.OK {
			t.Fatalf("Past(%v, %v) = %d, %d", box, draws, steps, e)
		}
	}
}
