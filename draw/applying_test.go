package draw_test

import (
	"math/rand/v2"
	"slices"
	"testing"

	"galloon/api"
	"galloon/draw"
)

// wantForward checks Forward for all states.
func wantForward(t *testing.T, box api.Box, draws []int) {
	t.Helper()
	for state := range states(box) {
		want := forward(box, state, draws)
		if got, e := draw.Forward(box, state, draws); got != want || e != api.OK {
			t.Fatalf("Forward(%v, %d, %v) = %d, %d, want %d", box, state, draws, got, e, want)
		}
	}
}

// wantImage checks Image.
func wantImage(t *testing.T, box api.Box, draws []int) {
	t.Helper()
	want := different(past(box, draws))
	if got, e := draw.Image(box, draws); !slices.Equal(got, want) || e != api.OK {
		t.Fatalf("Image(%v, %v) = %v, %d, want %v", box, draws, got, e, want)
	}
}

// wantPast checks Past, and returns what it must return.
func wantPast(t *testing.T, box api.Box, draws []int) (int, int, api.Errno) {
	t.Helper()
	steps, state, errno := 0, 0, api.ErrNone
	for length := range len(draws) + 1 {
		if image := different(past(box, draws[:length])); len(image) == 1 {
			steps, state, errno = length, image[0], api.OK
			break
		}
	}
	if n, q, e := draw.Past(box, draws); n != steps || q != state || e != errno {
		t.Fatalf("Past(%v, %v) = %d, %d, %d, want %d, %d, %d", box, draws, n, q, e, steps, state, errno)
	}
	return steps, state, errno
}

// P7.1: all short draws of all small boxes, and others up to MaxDraws.
func TestApplying(t *testing.T) {
	for box := range allBoxes {
		for length := range 5 {
			if length > 2 && len(box.Maps) > 2 {
				break
			}
			for draws := range tuples(length, len(box.Maps)-1) {
				wantForward(t, box, draws)
				wantImage(t, box, draws)
				wantPast(t, box, draws)
			}
		}
	}
	steps := map[int]bool{}
	missed := 0
	for box := range boxes {
		for _, draws := range someDraws(box) {
			wantForward(t, box, draws)
			wantImage(t, box, draws)
			if n, _, e := wantPast(t, box, draws); e == api.OK {
				steps[n] = true
			} else {
				missed++
			}
		}
	}
	if len(steps) < 20 || missed < 100 {
		t.Errorf("they met only within %v steps; %d did not", steps, missed)
	}
}

// P7.1: draws that meet by their last one, for each length, and not before, or not at all.
func TestPastOfAllLengths(t *testing.T) {
	for n := 2; n <= api.MaxStates; n++ {
		same := make([]int, n)
		for i := range same {
			same[i] = i
		}
		for state := range n {
			box := boxOf(same, slices.Repeat([]int{state}, n))
			for length := range api.MaxDraws {
				draws := append(make([]int, length), 1)
				steps, q, e := draw.Past(box, draws)
				if steps != length+1 || q != state || e != api.OK {
					t.Fatalf("Past(%v, %v) = %d, %d, %d", box, draws, steps, q, e)
				}
				steps, q, e = draw.Past(box, draws[:length])
				if steps != 0 || q != 0 || e != api.ErrNone {
					t.Fatalf("Past(%v, %v) = %d, %d, %d", box, draws[:length], steps, q, e)
				}
			}
		}
	}
}

// P7.1: the first draw is applied last from the past, and first forward.
func TestKnownApplying(t *testing.T) {
	if n, q, e := draw.Past(coin(), []int{1, 0}); n != 1 || q != 1 || e != api.OK {
		t.Errorf("Past = %d, %d, %d", n, q, e)
	}
	for state := range 2 {
		if q, e := draw.Forward(coin(), state, []int{1, 0}); q != 0 || e != api.OK {
			t.Errorf("Forward = %d, %d", q, e)
		}
	}
	if n, q, e := draw.Past(walk(), []int{0, 1, 0, 0, 0}); n != 4 || q != 0 || e != api.OK {
		t.Errorf("Past = %d, %d, %d", n, q, e)
	}
	if n, q, e := draw.Past(walk(), []int{1, 0, 1, 1, 1}); n != 4 || q != 2 || e != api.OK {
		t.Errorf("Past = %d, %d, %d", n, q, e)
	}
	for _, c := range []struct {
		box   api.Box
		draws []int
		want  []int
	}{
		{walk(), nil, []int{0, 1, 2}}, {walk(), []int{0}, []int{0, 1}}, {walk(), []int{1}, []int{1, 2}}, {walk(), []int{0, 0}, []int{0}}, {walk(), []int{1, 0}, []int{1, 2}}, {walk(), []int{0, 1}, []int{0, 1}},
		{swap(), []int{0, 0, 0}, []int{0, 1}}, {boxOf([]int{2, 0, 2, 0}, []int{0, 1, 1, 3}), []int{1, 0}, []int{0, 1}}, {boxOf([]int{2, 0, 2, 0}, []int{0, 1, 1, 3}), []int{0, 1}, []int{0, 2}},
	} {
		if got, e := draw.Image(c.box, c.draws); !slices.Equal(got, c.want) || e != api.OK {
			t.Errorf("Image(%v, %v) = %v, %d, want %v", c.box, c.draws, got, e, c.want)
		}
	}
}

// P7.1: a single state has met before any draw.
func TestSingleState(t *testing.T) {
	for maps := 1; maps <= api.MaxMaps; maps++ {
		box := boxOf(slices.Repeat([][]int{{0}}, maps)...)
		for _, draws := range someDraws(box) {
			if n, q, e := draw.Past(box, draws); n != 0 || q != 0 || e != api.OK {
				t.Errorf("Past(%v, %v) = %d, %d, %d", box, draws, n, q, e)
			}
		}
	}
}

// P7.6: draws that meet within T steps meet within more, and send all to the same state.
func TestMoreSteps(t *testing.T) {
	r := rand.New(rand.NewPCG(7, 6))
	met := 0
	for box := range boxes {
		draws := randomDraws(r, box, api.MaxDraws)
		steps, state, e := draw.Past(box, draws)
		if e != api.OK {
			continue
		}
		met++
		for length := range api.MaxDraws + 1 {
			image, e := draw.Image(box, draws[:length])
			if e != api.OK || (len(image) == 1) != (length >= steps) || length >= steps && image[0] != state {
				t.Fatalf("Image(%v, %v) = %v, %d, but all meet at %d within %d steps", box, draws[:length], image, e, state, steps)
			}
			n, q, e := draw.Past(box, draws[:length])
			if length >= steps && (n != steps || q != state || e != api.OK) || length < steps && e != api.ErrNone {
				t.Fatalf("Past(%v, %v) = %d, %d, %d, but all meet at %d within %d steps", box, draws[:length], n, q, e, state, steps)
			}
		}
	}
	if met < 500 {
		t.Errorf("only %d met", met)
	}
}
