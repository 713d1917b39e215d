package remnant_test

import (
	"slices"
	"testing"

	"galloon/api"
	"galloon/remnant"
)

// wantBest checks that Best returns a right packing with so many boxes, and that Check says so.
func wantBest(t *testing.T, s stock, want int) {
	t.Helper()
	list, n, e := remnant.Best(s.room, s.pieces)
	if e != api.OK || n != want || !isPacking(s.pieces, list) || !isRight(s.room, s.pieces, list) || boxCount(list) != n {
		t.Fatalf("Best(%d, %v) = %v, %d, %d, want %d boxes", s.room, s.pieces, list, n, e, want)
	}
	if k, e := remnant.Check(s.room, s.pieces, list); k != n || e != api.OK {
		t.Fatalf("Check(%d, %v, %v) = %d, %d, want %d", s.room, s.pieces, list, k, e, n)
	}
}

// P9.1: few pieces, held against all packings of them.
func TestSmallStocks(t *testing.T) {
	for s := range smallStocks {
		wantPackings(t, s)
	}
}

// P9.1: six to eight pieces, held against all packings of them.
func TestLargerStocks(t *testing.T) {
	for _, s := range largerStocks() {
		wantPackings(t, s)
	}
}

// wantPackings checks Best and Ways.
func wantPackings(t *testing.T, s stock) {
	t.Helper()
	fewest, ways := len(s.pieces), 0
	for packing := range packings(len(s.pieces), 0) {
		if isRight(s.room, s.pieces, packing) {
			fewest = min(fewest, boxCount(packing))
			ways++
		}
	}
	wantBest(t, s, fewest)
	if n, e := remnant.Ways(s.room, s.pieces); n != ways || e != api.OK {
		t.Fatalf("Ways(%d, %v) = %d, %d, want %d", s.room, s.pieces, n, e, ways)
	}
}

// P9.1: up to MaxPieces pieces, held against a search through all right packings that are not worse.
func TestBestOfMany(t *testing.T) {
	for _, s := range fullStocks() {
		wantBest(t, s, fewestBoxes(s))
	}
}

// P9.1: packings that are known, among them those that no simple way finds.
func TestKnownBest(t *testing.T) {
	for _, x := range []struct {
		room   int
		pieces []int
		want   int
	}{
		{10, nil, 0}, {1, []int{}, 0}, {1, []int{1}, 1}, {100, []int{100}, 1}, {10, []int{6, 5, 4, 5}, 2}, {10, []int{4, 4, 4}, 2},
		{1, slices.Repeat([]int{1}, 12), 12}, {100, slices.Repeat([]int{1}, 12), 1}, {100, slices.Repeat([]int{51}, 12), 12}, {100, slices.Repeat([]int{50}, 12), 6},
		{100, slices.Repeat([]int{34}, 12), 6}, {100, slices.Repeat([]int{33}, 12), 4}, {100, slices.Repeat([]int{100}, 12), 12}, {12, upTo(1, 12), 7},
		{10, []int{3, 3, 2, 2, 2, 2, 2, 2, 2}, 2}, {10, []int{4, 4, 3, 3, 3, 3}, 2}, {100, []int{45, 45, 35, 35, 20, 20}, 2},
		{100, []int{15, 15, 15, 34, 34, 34, 51, 51, 51}, 3}, {20, []int{11, 10, 5, 5, 5, 4}, 2}, {30, []int{6, 10, 14, 6, 10, 14, 15, 15}, 3},
	} {
		wantBest(t, stock{x.room, x.pieces}, x.want)
	}
}

// P9.1: the number of right packings at the limits, where it is known otherwise.
func TestKnownWays(t *testing.T) {
	for n := range api.MaxPieces + 1 {
		for _, x := range []struct{ room, size, most int }{
			{100, 1, 100}, {100, 8, 12}, {12, 1, 12}, {100, 51, 1}, {100, 100, 1}, {1, 1, 1}, {100, 50, 2}, {100, 34, 2}, {2, 1, 2}, {100, 33, 3}, {3, 1, 3}, {100, 25, 4}, {99, 11, 9}, {100, 9, 11},
		} {
			if ways, e := remnant.Ways(x.room, slices.Repeat([]int{x.size}, n)); ways != equalWays(n, x.most) || e != api.OK {
				t.Errorf("Ways(%d, %d times %d) = %d, %d, want %d", x.room, n, x.size, ways, e, equalWays(n, x.most))
			}
		}
	}
	for n, want := range []int{1, 1, 2, 5, 15, 52, 203, 877, 4140, 21147, 115975, 678570, 4213597} {
		if ways, e := remnant.Ways(100, slices.Repeat([]int{1}, n)); ways != want || e != api.OK {
			t.Errorf("%d pieces that all fit into a box: %d, %d, want %d", n, ways, e, want)
		}
	}
	for room, want := range map[int]int{10: 2, 9: 1} {
		if n, e := remnant.Ways(room, []int{5, 5}); n != want || e != api.OK {
			t.Errorf("Ways(%d, 5 5) = %d, %d, want %d", room, n, e, want)
		}
	}
}

// equalWays returns in how many ways n pieces can be put into boxes with at most so many in each: with the first piece
// there are some of the others.
func equalWays(n, most int) int {
	if n == 0 {
		return 1
	}
	ways, choices := 0, 1
	for others := range min(n, most) {
		ways += choices * equalWays(n-1-others, most)
		choices = choices * (n - 1 - others) / (others + 1)
	}
	return ways
}

// P9.1: the number of right packings of different pieces at the limits, counted one by one.
func TestWaysOfMany(t *testing.T) {
	for i, s := range fullStocks() {
		if len(s.pieces) > 10 && i%40 > 0 {
			continue
		}
		ways := 0
		loads := make([]int, len(s.pieces))
		var place func(i, count int)
		place = func(i, count int) {
			if i == len(s.pieces) {
				ways++
				return
			}
			for box := range count + 1 {
				if loads[box]+s.pieces[i] <= s.room {
					loads[box] += s.pieces[i]
					place(i+1, max(count, box+1))
					loads[box] -= s.pieces[i]
				}
			}
		}
		place(0, 0)
		if n, e := remnant.Ways(s.room, s.pieces); n != ways || e != api.OK {
			t.Fatalf("Ways(%d, %v) = %d, %d, want %d", s.room, s.pieces, n, e, ways)
		}
	}
}

// wantChecks checks what Check, Loads and IsFilling say of a list.
func wantChecks(t *testing.T, s stock, list []int) {
	t.Helper()
	want, errno := 0, api.OK
	var loads []int
	switch {
	case !isPacking(s.pieces, list):
		errno = api.ErrArg
	case !isRight(s.room, s.pieces, list):
		loads, errno = loadsOf(s.pieces, list), api.ErrAnswer
	default:
		loads, want = loadsOf(s.pieces, list), boxCount(list)
	}
	if n, e := remnant.Check(s.room, s.pieces, list); n != want || e != errno {
		t.Fatalf("Check(%d, %v, %v) = %d, %d, want %d, %d", s.room, s.pieces, list, n, e, want, errno)
	}
	if got, e := remnant.Loads(s.room, s.pieces, list); !slices.Equal(got, loads) || (e == api.ErrArg) != (errno == api.ErrArg) || e != api.OK && e != api.ErrArg {
		t.Fatalf("Loads(%d, %v, %v) = %v, %d, want %v", s.room, s.pieces, list, got, e, loads)
	}
	want, errno = 0, api.OK
	switch {
	case !isNumbered(s.pieces, list):
		errno = api.ErrArg
	case !isFull(s.room, s.pieces, list):
		errno = api.ErrAnswer
	default:
		want = boxCount(list)
	}
	if n, e := remnant.IsFilling(s.room, s.pieces, list); n != want || e != errno {
		t.Fatalf("IsFilling(%d, %v, %v) = %d, %d, want %d, %d", s.room, s.pieces, list, n, e, want, errno)
	}
}

// P9.1 and P9.4: Check, Loads and IsFilling of all short lists of numbers, whether they are packings or not.
func TestAllLists(t *testing.T) {
	for _, room := range []int{1, 2, 3, 5} {
		for n := range 4 {
			for pieces := range tuples(n, 1, room) {
				for length := range 5 {
					for list := range tuples(length, -2, 4) {
						if length < 4 || room == 3 {
							wantChecks(t, stock{room, pieces}, list)
						}
					}
				}
			}
		}
	}
	for _, pieces := range [][]int{{1, 2, 3, 4}, {4, 4, 4, 4}, {1, 1, 1, 1}, {2, 3, 2, 3}} {
		for list := range tuples(4, -2, 5) {
			wantChecks(t, stock{5, pieces}, list)
		}
	}
}

// P9.1 and P9.4: Check, Loads and IsFilling of all packings and of all lists with -1 of some pieces.
func TestAllPackings(t *testing.T) {
	for _, s := range []stock{{10, []int{6, 5, 4, 5, 1, 9, 3}}, {100, []int{50, 50, 25, 25, 75, 100, 1}}, {7, []int{1, 2, 3, 4, 5, 6, 7}}, {3, []int{1, 1, 1, 1, 1, 1, 1}}} {
		for list := range packings(len(s.pieces), -1) {
			wantChecks(t, s, list)
		}
	}
}

// P9.1 and P9.4: Check, Loads and IsFilling of packings of up to MaxPieces pieces, and of those with a change.
func TestChangedPackings(t *testing.T) {
	for _, s := range fullStocks() {
		packing, _, _ := remnant.Best(s.room, s.pieces)
		filling, _, _ := remnant.Fill(s.room, s.pieces)
		for _, list := range [][]int{packing, filling, upTo(0, len(s.pieces)-1), make([]int, len(s.pieces)), slices.Repeat([]int{-1}, len(s.pieces))} {
			wantChecks(t, s, list)
			for i := range list {
				for _, box := range []int{-1, 0, list[i] + 1, list[i] - 1, 11, 12} {
					changed := slices.Clone(list)
					changed[i] = box
					wantChecks(t, s, changed)
				}
			}
		}
	}
}

// P9.1: loads that are known; of packings that are not right, too.
func TestKnownLoads(t *testing.T) {
	for _, x := range []struct {
		room            int
		pieces, packing []int
		want            []int
	}{
		{10, []int{6, 5, 4, 5}, []int{0, 0, 0, 1}, []int{15, 5}}, {10, []int{6, 5, 4, 5}, []int{0, 1, 0, 1}, []int{10, 10}}, {10, nil, nil, nil},
		{100, slices.Repeat([]int{100}, 12), make([]int, 12), []int{1200}}, {1, slices.Repeat([]int{1}, 12), upTo(0, 11), slices.Repeat([]int{1}, 12)},
		{9, []int{1, 2, 3, 4, 5}, []int{0, 1, 2, 1, 0}, []int{6, 6, 3}},
	} {
		if got, e := remnant.Loads(x.room, x.pieces, x.packing); !slices.Equal(got, x.want) || e != api.OK {
			t.Errorf("Loads(%d, %v, %v) = %v, %d, want %v", x.room, x.pieces, x.packing, got, e, x.want)
		}
	}
}
