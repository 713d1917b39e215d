package yard_test

import (
	"math"
	"reflect"
	"slices"
	"testing"

	"galloon/api"
	"galloon/yard"
)

// P3.5: neighbors are known by their cross products, and Between is their middle.
func TestNeighborsAndMiddles(t *testing.T) {
	list := slices.Concat(rowOf(20), largeFracs())
	for _, f := range list {
		for _, g := range list {
			is, e := yard.Neighbors(f, g)
			if want := g.Num*f.Den-g.Den*f.Num == 1; e != api.OK || is != want {
				t.Fatalf("Neighbors(%v, %v) = %t, %d", f, g, is, e)
			}
			if is && f.Den+g.Den <= api.MaxDen {
				if h, e := yard.Between(f, g); e != api.OK || h != of(f.Num+g.Num, f.Den+g.Den) {
					t.Fatalf("Between(%v, %v) = %v, %d", f, g, h, e)
				}
			}
		}
	}
}

// P3.5: all that stand side by side in a row are neighbors; those beside one add up to a multiple of it.
func TestSidesInRows(t *testing.T) {
	for n := 1; n <= 40; n++ {
		size, _ := yard.Size(n)
		for k := 1; k < size; k++ {
			f, e := yard.Item(n, k)
			before, x := yard.Before(n, f)
			if is, y := yard.Neighbors(before, f); e != api.OK || x != api.OK || y != api.OK || !is {
				t.Fatalf("row of %d: %v and %v are no neighbors", n, before, f)
			}
			if next, e := yard.Next(n, f); e == api.OK && ((before.Num+next.Num)%f.Num != 0 || (before.Den+next.Den)%f.Den != 0) {
				t.Fatalf("row of %d: %v and %v stand beside %v", n, before, next, f)
			}
		}
	}
}

// call is what every function is called with.
type call struct {
	n, k      int
	f, g      api.Frac
	path      string
	quotients []int
}

// results calls every function, and lists what each one returns.
func (c call) results() map[string][]any {
	list := func(values ...any) []any { return values }
	frac := func(f api.Frac, e api.Errno) []any { return list(f, e) }
	number := func(n int, e api.Errno) []any { return list(n, e) }
	path, e := yard.Path(c.f)
	quotients, x := yard.Quotients(c.f)
	a, b, y := yard.Saw(c.f)
	is, z := yard.Neighbors(c.f, c.g)
	touching, u := yard.Touching(c.n, c.f)
	return map[string][]any{
		"Size": number(yard.Size(c.n)), "Item": frac(yard.Item(c.n, c.k)), "Below": number(yard.Below(c.n, c.f)),
		"Next": frac(yard.Next(c.n, c.f)), "Before": frac(yard.Before(c.n, c.f)), "Between": frac(yard.Between(c.f, c.g)),
		"Nearest": frac(yard.Nearest(c.n, c.f)), "Path": list(path, e), "Follow": frac(yard.Follow(c.path)),
		"Quotients": list(quotients, x), "Fold": frac(yard.Fold(c.quotients)), "Saw": list(a, b, y),
		"Neighbors": list(is, z), "Touching": list(touching, u),
	}
}

// isEmpty tells whether a result is its zero value, or an empty list.
func isEmpty(value any) bool {
	v := reflect.ValueOf(value)
	return v.Kind() == reflect.Slice && v.Len() == 0 || v.Kind() != reflect.Slice && v.IsZero()
}

// wantErrArg checks that these functions return ErrArg and zero values.
func wantErrArg(t *testing.T, c call, names ...string) {
	t.Helper()
	results := c.results()
	for _, name := range names {
		result := results[name]
		last := len(result) - 1
		if result[last] != api.ErrArg || slices.ContainsFunc(result[:last], func(value any) bool { return !isEmpty(value) }) {
			t.Errorf("%s of %+v: %v", name, c, result)
		}
	}
}

// P1 and the errors: an n that has no row, and a fraction that is not valid, lead to ErrArg in every function.
func TestInvalidArguments(t *testing.T) {
	numbers := []int{0, 1, -1, math.MinInt, math.MaxInt}
	for _, k := range numbers {
		for _, n := range noRows() {
			for _, f := range []api.Frac{of(0, 1), of(1, 1), of(1, 2), of(1, 1000000), {}} {
				wantErrArg(t, call{n: n, k: k, f: f}, "Size", "Item", "Below", "Next", "Before", "Nearest", "Touching")
			}
		}
	}
	for _, f := range noFracs() {
		for _, n := range []int{1, 2, 300, 0, 301, math.MaxInt} {
			wantErrArg(t, call{n: n, f: f, g: of(1, 1)},
				"Below", "Next", "Before", "Nearest", "Touching", "Path", "Quotients", "Saw", "Between", "Neighbors")
		}
		for _, g := range []api.Frac{of(0, 1), of(1, 1), of(1, 2), of(1, 1000000), f, {}} {
			wantErrArg(t, call{n: 1, f: f, g: g}, "Between", "Neighbors")
			wantErrArg(t, call{n: 1, f: g, g: f}, "Between", "Neighbors")
		}
	}
}

// The limits themselves are valid in every function, but for those that state an error.
func TestLimitsOfArguments(t *testing.T) {
	for _, n := range []int{1, 300} {
		for _, f := range []api.Frac{of(0, 1), of(1, 1), of(1, 1000000), of(999999, 1000000)} {
			results := call{n: n, f: f, g: of(999999, 1000000)}.results()
			for _, name := range []string{"Size", "Item", "Below", "Next", "Before", "Nearest", "Quotients", "Neighbors"} {
				if e := results[name][len(results[name])-1]; e == api.ErrArg {
					t.Errorf("%s of %d and %v: ErrArg", name, n, f)
				}
			}
		}
	}
}

func calls() []call {
	var list []call
	for i, f := range slices.Concat(rowOf(11), largeFracs()[:20], noFracs()[:5]) {
		list = append(list,
			call{n: 5 + i, k: i, f: f, g: of(1, 1), path: "LLRL"[:i%5], quotients: []int{i, 3, 2}},
			call{n: 300, k: 77 * i, f: f, g: of(2, 3), path: "RRL", quotients: []int{1, i, 1, 4}},
			call{n: -i, k: -1, f: f, path: "?", quotients: []int{i, 0}})
	}
	return list
}

// P2 and rule 5: the same call returns the same, whatever is called, and done with results, in between.
func TestRepeatedCalls(t *testing.T) {
	var before []map[string][]any
	list := calls()
	for _, c := range list {
		before = append(before, c.results())
		for _, result := range c.results() {
			spoil(result[0])
		}
	}
	for i, again := range calls() {
		if !reflect.DeepEqual(list[i], again) {
			t.Fatalf("the arguments %+v have become %+v", again, list[i])
		}
		if results := again.results(); !reflect.DeepEqual(before[i], results) {
			t.Fatalf("%+v: first %v, then %v", again, before[i], results)
		}
	}
}

// spoil overwrites a result to the end of its memory, which is nobody else's.
func spoil(value any) {
	switch x := value.(type) {
	case []int:
		x = x[:cap(x)]
		for i := range x {
			x[i] = -7
		}
	case []api.Frac:
		x = x[:cap(x)]
		for i := range x {
			x[i] = of(-7, -7)
		}
	}
}
