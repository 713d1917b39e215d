package tower_test

import (
	"math"
	"slices"
	"strconv"
	"testing"

	"galloon/api"
	"galloon/tower"
)

// noTimes returns numbers that are not from 0 to MaxTimes.
func noTimes() []int {
	return []int{-1, 1001, -1000, math.MinInt, math.MaxInt}
}

// someOrdinals returns small ordinals, and large ones.
func someOrdinals() []ord {
	return slices.Concat(ordinalsUpTo(5, 1, 2), ordinalsUpTo(3, 3, 1000), largeOrdinals())
}

// P5.2: Kind, for all ordinals.
func TestKindByDefinition(t *testing.T) {
	for _, a := range someOrdinals() {
		if k, e := tower.Kind(a.String()); k != kindOf(a) || e != api.OK {
			t.Fatalf("Kind(%v) = %d, %d", a, k, e)
		}
	}
}

// P5.2: Step, for all ordinals, with those that are full.
func TestStepByDefinition(t *testing.T) {
	full := 0
	for _, a := range someOrdinals() {
		for _, n := range []int{0, 1, 2, 3, 999, 1000} {
			s, e := tower.Step(a.String(), n)
			name := "Step(" + a.String() + ", " + strconv.Itoa(n) + ")"
			if len(a) == 0 {
				wantText(t, name, s, e, "", api.ErrNone)
			} else if want := stepOf(a, n); isFull(want) {
				full++
				wantText(t, name, s, e, "", api.ErrFull)
			} else {
				wantText(t, name, s, e, want.String(), api.OK)
			}
		}
	}
	if full < 10 {
		t.Errorf("%d steps only are full", full)
	}
}

// P5.2: what is left out, what is added, and what a 0 adds.
func TestEdgesOfStep(t *testing.T) {
	const w2, ww = "w^(w^(0)*2)*1", "w^(w^(w^(0)*1)*1)*1"
	for _, c := range []struct {
		a    string
		n    int
		want string
	}{
		{one, 0, "0"}, {one, 1000, "0"}, {"w^(0)*1000", 3, "w^(0)*999"}, {w + "+" + one, 5, w}, {w + "+" + two, 5, w + "+" + one},
		{w, 0, "0"}, {w, 1, one}, {w, 1000, "w^(0)*1000"}, {"w^(w^(0)*1)*2", 0, w}, {"w^(w^(0)*1)*2", 3, w + "+w^(0)*3"},
		{w2, 0, "0"}, {w2, 1, w}, {w2, 4, "w^(w^(0)*1)*4"}, {w2 + "+" + w, 2, w2 + "+" + two}, {w2 + "+" + w, 0, w2},
		{ww, 0, one}, {ww, 1, w}, {ww, 2, w2}, {"w^(" + w + ")*2", 0, ww + "+" + one}, {"w^(" + w + "+" + one + ")*1", 3, "w^(" + w + ")*3"},
		{"w^(" + ww + ")*1", 0, w}, {"w^(" + ww + ")*1", 2, "w^(" + w2 + ")*1"}, {"w^(w^(w^(0)*1)*2)*1", 5, "w^(" + w + "+w^(0)*5)*1"},
	} {
		s, e := tower.Step(c.a, c.n)
		wantText(t, "Step("+c.a+", "+strconv.Itoa(c.n)+")", s, e, c.want, api.OK)
	}
}

// P5.2: a size of 60 is not full, and 61 is.
func TestFullSteps(t *testing.T) {
	for _, c := range []struct {
		a    ord
		n    int
		full bool
	}{
		// The parts before stay; the last one is doubled, but for the end of its exponent.
		{ord{{nested(29), 2}}, 1, false}, {ord{{nested(30), 2}}, 0, false}, {ord{{nested(30), 2}}, 1, true}, {ord{{nested(31), 2}}, 2, true},
		{ord{{nested(31), 1}}, 1, false}, {ord{{nested(59), 1}}, 1000, false}, {ord{{nested(59), 2}}, 0, true}, {ord{{wide(58, 1), 2}}, 1, true},
		{ord{{wide(29, 1), 2}}, 1, false}, {ord{{wide(31, 1), 2}}, 1, true}, {ord{{wide(31, 1), 2}}, 0, false}, {ord{{wide(59, 1), 2}}, 0, false}, {ord{{wide(59, 1), 2}}, 1, true},
		{nested(60), 1, false}, {wide(60, 1), 1000, false}, {wide(60, 2), 1, true}, {wide(60, 1000), 0, false},
	} {
		if isFull(stepOf(c.a, c.n)) != c.full {
			t.Fatalf("the step of %v for %d: the definition says otherwise", c.a, c.n)
		}
		want, errno := stepOf(c.a, c.n).String(), api.OK
		if c.full {
			want, errno = "", api.ErrFull
		}
		s, e := tower.Step(c.a.String(), c.n)
		wantText(t, "Step("+c.a.String()+", "+strconv.Itoa(c.n)+")", s, e, want, errno)
	}
}

// P5.2: the errors of numbers and of 0, in their order.
func TestErrorsOfDescents(t *testing.T) {
	for _, n := range noTimes() {
		for _, a := range []string{"0", one, w, nested(60).String(), ord{{nested(59), 2}}.String(), "w^(0)*1000"} {
			s, e := tower.Step(a, n)
			wantText(t, "Step("+a+", "+strconv.Itoa(n)+")", s, e, "", api.ErrArg)
			if l, e := tower.Descent(a, n); len(l) != 0 || e != api.ErrArg {
				t.Errorf("Descent(%s, %d) = %v, %d", a, n, l, e)
			}
		}
	}
	for _, n := range []int{0, 1, 1000} {
		s, e := tower.Step("0", n)
		wantText(t, "Step(0)", s, e, "", api.ErrNone)
		if l, e := tower.Descent("0", n); !slices.Equal(l, []string{"0"}) || e != api.OK {
			t.Errorf("Descent(0, %d) = %v, %d", n, l, e)
		}
	}
}

// P5.5: a step is less than its limit, and grows strictly with n, from 1 on.
func TestPropertiesOfSteps(t *testing.T) {
	for _, a := range someOrdinals() {
		if len(a) == 0 {
			continue
		}
		before, _ := tower.Step(a.String(), 1)
		for _, n := range []int{2, 3, 4, 999, 1000} {
			s, e := tower.Step(a.String(), n)
			if e == api.ErrFull {
				break
			}
			if c, x := tower.Compare(s, a.String()); e != api.OK || c != -1 || x != api.OK {
				t.Fatalf("Step(%v, %d) = %s, %d", a, n, s, e)
			}
			if c, x := tower.Compare(before, s); c != 1-kindOf(a) || x != api.OK {
				t.Fatalf("Step(%v, %d) = %s, after %s", a, n, s, before)
			}
			before = s
		}
	}
}

// descentOf returns the descent, and false if it is full.
func descentOf(a ord, n int) ([]string, bool) {
	list := []string{a.String()}
	for len(a) > 0 {
		a = stepOf(a, n)
		n++
		list = append(list, a.String())
		if isFull(a) || len(list) > 300 {
			return nil, false
		}
	}
	return list, true
}

// P5.2 and P5.5: Descent, for all ordinals, with those that are full; it descends strictly.
func TestDescentByDefinition(t *testing.T) {
	whole := 0
	for _, a := range someOrdinals() {
		for _, n := range []int{0, 1, 2, 5, 17, 298, 1000} {
			l, e := tower.Descent(a.String(), n)
			want, ok := descentOf(a, n)
			if !ok {
				if len(l) != 0 || e != api.ErrFull {
					t.Fatalf("Descent(%v, %d) = %v, %d", a, n, l, e)
				}
				continue
			}
			if !slices.Equal(l, want) || e != api.OK {
				t.Fatalf("Descent(%v, %d) = %v, %d, want %v", a, n, l, e, want)
			}
			for i := 1; i < len(l); i++ {
				if c, _ := tower.Compare(l[i], l[i-1]); c != -1 {
					t.Fatalf("Descent(%v, %d) = %v does not descend", a, n, l)
				}
			}
			whole++
		}
	}
	if whole < 200 {
		t.Errorf("%d descents only are not full", whole)
	}
}

// P5.2: 300 ordinals are not full, and 301 are; the number grows with successors as well as with limits.
func TestEdgesOfDescent(t *testing.T) {
	for _, c := range []struct {
		a      string
		n      int
		length int
	}{
		{"w^(0)*299", 0, 300}, {"w^(0)*299", 1000, 300}, {"w^(0)*300", 0, 0}, {"w^(0)*1000", 5, 0},
		{w, 0, 2}, {w, 3, 5}, {w, 298, 300}, {w, 299, 0}, {w, 1000, 0}, {w + "+" + one, 296, 300}, {w + "+" + one, 297, 0},
		// From w + 3 and 3 on, w comes with the number 6, and then 6; from w and w and 3 on, w comes with the number 7, and then 7.
		{w + "+w^(0)*3", 3, 11}, {"w^(w^(0)*1)*2", 3, 13}, {nested(2).String(), 1, 3}, {nested(3).String(), 0, 3}, {nested(60).String(), 1, 0}, {nested(60).String(), 1000, 0},
	} {
		l, e := tower.Descent(c.a, c.n)
		if c.length == 0 && e != api.ErrFull || c.length > 0 && e != api.OK || len(l) != c.length {
			t.Errorf("Descent(%s, %d) = %v, %d, want %d ordinals", c.a, c.n, l, e, c.length)
		}
	}
	l, e := tower.Descent("w^(w^(0)*1)*2", 1)
	want := []string{"w^(w^(0)*1)*2", w + "+" + one, w, "w^(0)*3", two, one, "0"}
	if !slices.Equal(l, want) || e != api.OK {
		t.Errorf("Descent = %v, %d, want %v", l, e, want)
	}
}
