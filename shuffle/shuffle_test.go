package shuffle_test

import (
	"fmt"
	"math"
	"reflect"
	"slices"
	"testing"

	"galloon/api"
	"galloon/shuffle"
)

// call is what every function is called with.
type call struct {
	m                      int
	p, q, f, g, form, left []int
	parts                  [][2]int
}

// results calls every function, and lists what each one returns.
func (c call) results() map[string][]any {
	list := func(values ...any) []any { return values }
	numbers := func(l []int, e api.Errno) []any { return list(l, e) }
	number := func(n int, e api.Errno) []any { return list(n, e) }
	x, y, e := shuffle.Permutes(c.m, c.p)
	parts, functions, errno := shuffle.Split(c.m, c.p)
	return map[string][]any{
		"Values": numbers(shuffle.Values(c.m, c.p)), "Form": numbers(shuffle.Form(c.m, c.f)), "Unform": numbers(shuffle.Unform(c.m, c.form)),
		"Count": number(shuffle.Count(c.m)), "Degree": number(shuffle.Degree(c.m)), "Permutes": list(x, y, e),
		"Inverse": numbers(shuffle.Inverse(c.m, c.f)), "Order": number(shuffle.Order(c.m, c.f)), "After": numbers(shuffle.After(c.m, c.f, c.g)),
		"Cycles": numbers(shuffle.Cycles(c.m, c.f)), "Split": list(parts, functions, errno), "Joined": number(shuffle.Joined(c.parts, c.left)),
		"Same": number(shuffle.Same(c.m, c.p, c.q)), "Shifts": numbers(shuffle.Shifts(c.m, c.p)),
	}
}

// isEmpty tells whether a result is its zero value, or an empty list.
func isEmpty(value any) bool {
	v := reflect.ValueOf(value)
	return v.Kind() == reflect.Slice && v.Len() == 0 || v.Kind() != reflect.Slice && v.IsZero()
}

// wantErrArg checks that exactly these functions return ErrArg, with zero values, and the others no error.
func wantErrArg(t *testing.T, c call, names ...string) {
	t.Helper()
	for name, result := range c.results() {
		last := len(result) - 1
		want := api.OK
		if slices.Contains(names, name) {
			want = api.ErrArg
		}
		if result[last] != want || want != api.OK && slices.ContainsFunc(result[:last], func(value any) bool { return !isEmpty(value) }) {
			t.Errorf("%s of %.200v: %.200v, want the error %d", name, c, result, want)
		}
	}
}

// identity returns a call without errors, all of whose functions give back their argument.
func identity(m int) call {
	points := make([]int, m)
	for x := range points {
		points[x] = x
	}
	parts := powers(m)
	return call{m, []int{0, 1}, []int{1, 1}, points, points, []int{0, 1}, make([]int, len(parts)), parts}
}

// small returns moduli for which Count is not full.
func small() []int {
	return []int{2, 3, 4, 6, 9, 12, 13, 30, 49, 60, 64}
}

// The errors: whatever is no modulus leads to ErrArg in all functions but Joined, which has none.
func TestNoModuli(t *testing.T) {
	names := []string{"Values", "Form", "Unform", "Count", "Degree", "Permutes", "Inverse", "Order", "After", "Cycles", "Split", "Same", "Shifts"}
	for _, m := range small() {
		wantErrArg(t, identity(m))
		for _, wrong := range []int{0, 1, -1, -2, -m, 65, 66, 128, 1 << 20, 1<<32 + m, math.MinInt, math.MinInt + m, math.MaxInt} {
			c := identity(m)
			c.m = wrong
			wantErrArg(t, c, names...)
			c = call{m: wrong, parts: c.parts, left: c.left}
			wantErrArg(t, c, names...)
		}
	}
	for _, wrong := range []int{0, 1, 65, 66} {
		c := identity(64)
		points := make([]int, wrong)
		wantErrArg(t, call{wrong, nil, nil, points, points, nil, c.left, c.parts}, names...)
	}
}

// wrongNumbers returns lists with a number that is not from 0 to m - 1, at each position.
func wrongNumbers(list []int, m int) [][]int {
	var wrong [][]int
	for i := range list {
		for _, number := range []int{m, m + 1, -1, -m, 64, math.MinInt, math.MaxInt} {
			changed := slices.Clone(list)
			changed[i] = number
			wrong = append(wrong, changed)
		}
	}
	return wrong
}

// The errors: lists that are no polynomials lead to ErrArg.
func TestNoPolynomials(t *testing.T) {
	for _, m := range small() {
		long := append(make([]int, api.MaxTerms-1), 1)
		c := identity(m)
		c.p, c.q = long, long
		wantErrArg(t, c)
		wrong := slices.Concat(wrongNumbers([]int{0}, m), wrongNumbers(long, m), [][]int{make([]int, 13), append(long[:12:12], 0), append(long[:12:12], 1), make([]int, 64), make([]int, 1<<20)})
		for _, list := range wrong {
			c := identity(m)
			c.p = list
			wantErrArg(t, c, "Values", "Permutes", "Split", "Same", "Shifts")
			c.q = list
			wantErrArg(t, c, "Values", "Permutes", "Split", "Same", "Shifts")
			c.p = nil
			wantErrArg(t, c, "Same")
		}
	}
}

// The errors: lists that are no functions lead to ErrArg, before ErrNone.
func TestNoFunctions(t *testing.T) {
	for _, m := range small() {
		points := identity(m).f
		wrong := slices.Concat(wrongNumbers(points, m), wrongNumbers(make([]int, m), m), [][]int{nil, {}, points[:m-1], append(points[:m:m], 0), append(points[:m:m], m), slices.Concat(points, points), make([]int, 1<<20)})
		for _, list := range wrong {
			c := identity(m)
			c.f = list
			wantErrArg(t, c, "Form", "Inverse", "Order", "After", "Cycles")
			c.g = list
			wantErrArg(t, c, "Form", "Inverse", "Order", "After", "Cycles")
			c.f = points
			wantErrArg(t, c, "After")
		}
	}
}

// calls returns calls with right and with wrong arguments.
func calls() []call {
	list := []call{{}, {m: -1}, {m: math.MinInt}, {m: math.MaxInt}, {m: 65, f: make([]int, 65), g: make([]int, 65)}}
	for m := range moduli {
		before := []int{1}
		for i, polynomial := range polynomials(m) {
			c := identity(m)
			c.p, c.q, c.form = polynomial, before, polynomial
			c.f, c.g = functionOf(m, polynomial), functionOf(m, before)
			c.left[0] = i
			before = polynomial
			list = append(list, c)
			c.f = permutations(m)[i%2]
			c.m += i % 2
			list = append(list, c)
		}
	}
	return list
}

// P2 and rule 5: the same call returns the same, whatever is called, and done with results, in between;
// it changes no argument.
func TestRepeatedCalls(t *testing.T) {
	var before []string
	list := calls()
	for _, c := range list {
		text := fmt.Sprint(c)
		before = append(before, fmt.Sprint(c.results()))
		for _, result := range c.results() {
			for _, value := range result {
				spoil(value)
			}
		}
		if fmt.Sprint(c) != text {
			t.Fatalf("%s is %v after the calls", text, c)
		}
	}
	for i, c := range list {
		if results := fmt.Sprint(c.results()); before[i] != results {
			t.Fatalf("%+v: first %v, then %v", c, before[i], results)
		}
	}
}

// spoil overwrites a result to the end of its memory, which is nobody else's.
func spoil(value any) {
	switch x := value.(type) {
	case []int:
		x = x[:cap(x)]
		for i := range x {
			x[i] = -7
		}
	case [][2]int:
		x = x[:cap(x)]
		for i := range x {
			x[i] = [2]int{-7, -7}
		}
	case [][]int:
		for i, list := range x {
			others := fmt.Sprint(x[:i], x[i+1:])
			spoil(list)
			if fmt.Sprint(x[:i], x[i+1:]) != others {
				panic("lists of one result share memory")
			}
		}
	}
}

// Rule 4: with an error, every other result is its zero value; the errors are those that the chapter names.
func TestErrorsAlone(t *testing.T) {
	found := map[api.Errno]bool{}
	for _, c := range calls() {
		for name, result := range c.results() {
			last := len(result) - 1
			errno := result[last].(api.Errno)
			found[errno] = true
			if errno != api.OK && slices.ContainsFunc(result[:last], func(value any) bool { return !isEmpty(value) }) {
				t.Fatalf("%s of %+v: %v", name, c, result)
			}
		}
	}
	if want := map[api.Errno]bool{api.OK: true, api.ErrArg: true, api.ErrFull: true, api.ErrNone: true}; !reflect.DeepEqual(found, want) {
		t.Errorf("the errors are %v", found)
	}
}
