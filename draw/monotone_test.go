package draw_test

import (
	"math/rand/v2"
	"testing"

	"galloon/api"
	"galloon/draw"
)

// isMonotone tells whether, for every map and states p < q, p is not sent to a greater state than q.
func isMonotone(box api.Box) bool {
	for _, list := range box.Maps {
		for q := range list {
			for p := range q {
				if list[p] > list[q] {
					return false
				}
			}
		}
	}
	return true
}

// firstFall returns the smallest pair of a map and a state that it sends to a greater state than the next one.
func firstFall(box api.Box) [2]int {
	first := [2]int{-1, -1}
	for k := len(box.Maps) - 1; k >= 0; k-- {
		for state := states(box) - 2; state >= 0; state-- {
			if box.Maps[k][state] > box.Maps[k][state+1] {
				first = [2]int{k, state}
			}
		}
	}
	return first
}

// P7.5: Monotone, for all small boxes and for others.
func TestMonotone(t *testing.T) {
	falls, monotone := map[[2]int]bool{}, 0
	for box := range boxes {
		want, is := [2]int{}, isMonotone(box)
		if is {
			monotone++
		} else {
			want = firstFall(box)
			falls[want] = true
		}
		if got, ok, e := draw.Monotone(box); got != want || ok != is || e != api.OK {
			t.Fatalf("Monotone(%v) = %v, %t, %d, want %v, %t", box, got, ok, e, want, is)
		}
	}
	if len(falls) < 9 || monotone < 200 {
		t.Errorf("the pairs are only %v; %d boxes are monotone", falls, monotone)
	}
}

// P7.5: a fall at each state of each map, with nothing else before it, and more after it.
func TestFalls(t *testing.T) {
	same := []int{0, 1, 2, 3, 4, 5, 6}
	for k := range api.MaxMaps {
		for state := range 6 {
			var maps [][]int
			for i := range api.MaxMaps {
				list := append([]int(nil), same...)
				if i == k {
					list[state], list[state+1] = state+1, state
				}
				if i > k {
					list[0] = 5
				}
				maps = append(maps, list)
			}
			if got, ok, e := draw.Monotone(boxOf(maps...)); got != [2]int{k, state} || ok || e != api.OK {
				t.Errorf("Monotone(%v) = %v, %t, %d", maps, got, ok, e)
			}
		}
	}
}

// P7.5: boxes that are known.
func TestKnownMonotone(t *testing.T) {
	for _, c := range []struct {
		box  api.Box
		want [2]int
		is   bool
	}{
		{walk(), [2]int{}, true}, {coin(), [2]int{}, true}, {boxOf([]int{0}), [2]int{}, true}, {swap(), [2]int{0, 0}, false},
		{boxOf([]int{0, 1, 2}, []int{0, 2, 1}, []int{2, 1, 0}), [2]int{1, 1}, false}, {boxOf([]int{3, 3, 3, 2}, []int{1, 0, 0, 0}), [2]int{0, 2}, false},
	} {
		if got, is, e := draw.Monotone(c.box); got != c.want || is != c.is || e != api.OK {
			t.Errorf("Monotone(%v) = %v, %t, %d, want %v, %t", c.box, got, is, e, c.want, c.is)
		}
	}
}

// P7.6: in a monotone box draws meet as soon as the first and the last state do.
func TestEndsMeet(t *testing.T) {
	r := rand.New(rand.NewPCG(7, 5))
	met := 0
	for box := range boxes {
		if _, is, _ := draw.Monotone(box); !is {
			continue
		}
		for range 3 {
			draws := randomDraws(r, box, api.MaxDraws)
			for length := range api.MaxDraws + 1 {
				ends := past(box, draws[:length])
				if ends[0] != ends[len(ends)-1] {
					continue
				}
				met++
				if steps, state, e := draw.Past(box, draws); steps != length || state != ends[0] || e != api.OK {
					t.Fatalf("Past(%v, %v) = %d, %d, %d, but the ends meet at %d within %d", box, draws, steps, state, e, ends[0], length)
				}
				break
			}
		}
	}
	if met < 500 {
		t.Errorf("only %d met", met)
	}
}
