package draw_test

import (
	"fmt"
	"math"
	"reflect"
	"slices"
	"testing"

	"galloon/api"
	"galloon/draw"
)

// call is what every function is called with.
type call struct {
	box   api.Box
	state int
	draws []int
	steps int
}

// results calls every function, and lists what each one returns.
func (c call) results() map[string][]any {
	list := func(values ...any) []any { return values }
	number := func(n int, e api.Errno) []any { return list(n, e) }
	numbers := func(l []int, e api.Errno) []any { return list(l, e) }
	shares := func(l []api.Frac, e api.Errno) []any { return list(l, e) }
	steps, met, e := draw.Past(c.box, c.draws)
	classes, f := draw.Final(c.box)
	chance, g := draw.Chance(c.box, c.steps)
	pair, is, h := draw.Monotone(c.box)
	return map[string][]any{
		"Forward": number(draw.Forward(c.box, c.state, c.draws)), "Past": list(steps, met, e), "Image": numbers(draw.Image(c.box, c.draws)),
		"Shortest": numbers(draw.Shortest(c.box)), "Balance": shares(draw.Balance(c.box)), "Final": list(classes, f), "Chance": list(chance, g),
		"Shares": shares(draw.Shares(c.box, c.steps)), "After": shares(draw.After(c.box, c.state, c.steps)), "Monotone": list(pair, is, h),
		"Returns": numbers(draw.Returns(c.box)), "Rank": number(draw.Rank(c.box)),
	}
}

// isEmpty tells whether a result is its zero value, or an empty list.
func isEmpty(value any) bool {
	v := reflect.ValueOf(value)
	return v.Kind() == reflect.Slice && v.Len() == 0 || v.Kind() != reflect.Slice && v.IsZero()
}

// wantErrArg checks that exactly these functions return ErrArg, with zero values.
func wantErrArg(t *testing.T, c call, names ...string) {
	t.Helper()
	for name, result := range c.results() {
		last := len(result) - 1
		if (result[last] == api.ErrArg) != slices.Contains(names, name) || result[last] != api.OK && slices.ContainsFunc(result[:last], func(value any) bool { return !isEmpty(value) }) {
			t.Errorf("%s of %.200v: %.200v, want ErrArg of %v", name, fmt.Sprint(c), result, names)
		}
	}
}

// every names all functions.
func every() []string {
	var names []string
	for name := range (call{}).results() {
		names = append(names, name)
	}
	return names
}

// wrongNumbers are numbers that are not from least to most.
func wrongNumbers(least, most int) []int {
	return []int{least - 1, least - 2, most + 1, most + 2, -most - 1, 100, 1<<32 + least, -1<<32 + least, math.MinInt, math.MinInt + most, math.MaxInt}
}

// changed returns lists with one of the wrong numbers at one of the positions.
func changed(list []int, wrong []int) [][]int {
	var all [][]int
	for i := range list {
		for _, number := range wrong {
			other := slices.Clone(list)
			other[i] = number
			all = append(all, other)
		}
	}
	return all
}

// noBoxes returns values that are not boxes, some of them like this box.
func noBoxes(box api.Box) []api.Box {
	n, maps := states(box), len(box.Maps)
	var list []api.Box
	for _, weights := range changed(box.Weights, wrongNumbers(1, api.MaxWeight)) {
		list = append(list, api.Box{Maps: box.Maps, Weights: weights})
	}
	for k, each := range box.Maps {
		others := append(changed(each, wrongNumbers(0, n-1)), nil, []int{}, make([]int, 100))
		if maps > 1 { // A single map may have any length.
			others = append(others, each[:n-1], append(slices.Clone(each), 0), slices.Concat(each, each))
		}
		for _, other := range others {
			lists := slices.Clone(box.Maps)
			lists[k] = other
			list = append(list, api.Box{Maps: lists, Weights: box.Weights})
		}
	}
	for _, weights := range [][]int{nil, {}, box.Weights[:maps-1], append(slices.Clone(box.Weights), 1), slices.Concat(box.Weights, box.Weights), make([]int, 100)} {
		list = append(list, api.Box{Maps: box.Maps, Weights: weights})
	}
	for _, lists := range [][][]int{nil, {}, box.Maps[:maps-1], append(slices.Clone(box.Maps), box.Maps[0]), make([][]int, maps), slices.Repeat([][]int{{}}, maps)} {
		list = append(list, api.Box{Maps: lists, Weights: box.Weights})
	}
	return list
}

// The errors: what is no box leads to ErrArg in all functions, also where a box like it leads to ErrNone.
func TestNoBoxes(t *testing.T) {
	list := []api.Box{{}, {Maps: [][]int{}, Weights: []int{}}, {Maps: [][]int{nil}, Weights: []int{1}}, {Maps: make([][]int, 1<<20), Weights: make([]int, 1<<20)}, {Maps: [][]int{make([]int, 1<<20)}, Weights: []int{1}}}
	for _, box := range largerBoxes() {
		list = append(list, noBoxes(box)...)
	}
	for n := 1; n <= api.MaxStates+2; n++ {
		for maps := 1; maps <= api.MaxMaps+2; maps++ {
			box := boxOf(slices.Repeat([][]int{make([]int, n)}, maps)...)
			if n > api.MaxStates || maps > api.MaxMaps {
				list = append(list, box)
			} else {
				wantErrArg(t, call{box: box})
			}
		}
	}
	names := every()
	for _, box := range list {
		wantErrArg(t, call{box: box}, names...)
	}
	for _, box := range list[:40] {
		wantErrArg(t, call{box, 1, []int{0}, 1}, names...)
		wantErrArg(t, call{box, -1, []int{-1}, -1}, names...)
		wantErrArg(t, call{box, math.MaxInt, make([]int, 1<<16), math.MaxInt}, names...)
	}
}

// The errors: what is no state leads to ErrArg.
func TestNoStates(t *testing.T) {
	for _, box := range largerBoxes() {
		n := states(box)
		for state := range n {
			wantErrArg(t, call{box: box, state: state})
		}
		for _, state := range append(wrongNumbers(0, n-1), api.MaxStates, 64) {
			wantErrArg(t, call{box: box, state: state}, "Forward", "After")
		}
	}
}

// The errors: what are no draws leads to ErrArg, also where the draws before would meet, and where none do.
func TestNoDraws(t *testing.T) {
	for _, box := range largerBoxes() {
		last := len(box.Maps) - 1
		longest := slices.Repeat([]int{last}, api.MaxDraws)
		wantErrArg(t, call{box: box, draws: longest})
		wrong := slices.Concat(changed([]int{0, last}, wrongNumbers(0, last)), changed(longest, []int{-1, last + 1}), [][]int{append(slices.Clone(longest), 0), slices.Concat(longest, longest), make([]int, 1<<16)})
		for _, draws := range wrong {
			wantWrong(t, call{box: box, draws: draws})
		}
	}
}

// wantWrong checks that the draws are wrong.
func wantWrong(t *testing.T, c call) {
	t.Helper()
	q, e := draw.Forward(c.box, c.state, c.draws)
	steps, met, f := draw.Past(c.box, c.draws)
	image, g := draw.Image(c.box, c.draws)
	if q != 0 || e != api.ErrArg || steps != 0 || met != 0 || f != api.ErrArg || len(image) != 0 || g != api.ErrArg {
		t.Errorf("of %.200v: Forward %d, %d, Past %d, %d, %d, Image %v, %d", fmt.Sprint(c), q, e, steps, met, f, image, g)
	}
}

// The errors: numbers of steps that are not from 0 to MaxChance lead to ErrArg.
func TestNoSteps(t *testing.T) {
	for _, box := range largerBoxes() {
		for _, steps := range []int{0, 1, api.MaxChance} {
			wantErrArg(t, call{box: box, steps: steps})
		}
		for _, steps := range append(wrongNumbers(0, api.MaxChance), 60, 1<<20) {
			wantErrArg(t, call{box: box, steps: steps}, "Chance", "Shares", "After")
		}
	}
}

// calls returns calls with right and with wrong arguments.
func calls() []call {
	list := []call{{}, {steps: -1}, {box: api.Box{Maps: [][]int{{}}, Weights: []int{1}}}}
	for i, box := range largerBoxes() {
		draws := someDraws(box)
		list = append(list, call{withRoom(box), i % states(box), roomy(draws[i%len(draws)]), i % 9})
		if i%4 == 0 {
			list = append(list, call{box, i%9 - 1, draws[i%len(draws)], i%11 - 1})
			list = append(list, call{noBoxes(box)[i%20], 0, draws[i%len(draws)], 2})
		}
	}
	return list
}

// roomy returns the list with room beyond its end, whose numbers show whether somebody appends to it.
func roomy(list []int) []int {
	return slices.Concat(list, []int{-70, -71, -72})[:len(list)]
}

// withRoom returns the box with room beyond the ends of its lists.
func withRoom(box api.Box) api.Box {
	var maps [][]int
	for _, list := range box.Maps {
		maps = append(maps, roomy(list))
	}
	maps = append(maps, []int{-73})
	return api.Box{Maps: maps[:len(box.Maps)], Weights: roomy(box.Weights)}
}

// memory returns all that the arguments hold, beyond the ends of their lists too.
func (c call) memory() string {
	maps := c.box.Maps[:cap(c.box.Maps)]
	text := fmt.Sprint(c, maps, c.box.Weights[:cap(c.box.Weights)], c.draws[:cap(c.draws)])
	for _, list := range maps {
		text += fmt.Sprint(list[:cap(list)])
	}
	return text
}

// P2 and rule 5: the same call returns the same, whatever is called, and done with results, in between;
// it changes no argument.
func TestRepeatedCalls(t *testing.T) {
	var before []string
	list := calls()
	for _, c := range list {
		text := c.memory()
		before = append(before, fmt.Sprint(c.results()))
		for _, result := range c.results() {
			for _, value := range result {
				spoil(value)
			}
		}
		if c.memory() != text {
			t.Fatalf("%s is %s after the calls", text, c.memory())
		}
	}
	for i, c := range list {
		if results := fmt.Sprint(c.results()); before[i] != results {
			t.Fatalf("%+v: first %v, then %v", c, before[i], results)
		}
	}
}

// spoil overwrites a result to the end of its memory, which is nobody else's.
func spoil(value any) {
	switch x := value.(type) {
	case []int:
		x = x[:cap(x)]
		for i := range x {
			x[i] = -7
		}
	case []api.Frac:
		x = x[:cap(x)]
		for i := range x {
			x[i] = of(-7, -7)
		}
	case [][]int:
		for i, list := range x {
			others := fmt.Sprint(x[:i], x[i+1:])
			spoil(list)
			if fmt.Sprint(x[:i], x[i+1:]) != others {
				panic("lists of one result share memory")
			}
		}
	}
}

// P1 and rule 4: no call panics; with an error, every other result is its zero value; the errors are those that
// the chapter states.
func TestErrorsAlone(t *testing.T) {
	found := map[string]map[api.Errno]bool{}
	for _, c := range calls() {
		for name, result := range c.results() {
			last := len(result) - 1
			errno := result[last].(api.Errno)
			if found[name] == nil {
				found[name] = map[api.Errno]bool{}
			}
			found[name][errno] = true
			if errno != api.OK && slices.ContainsFunc(result[:last], func(value any) bool { return !isEmpty(value) }) {
				t.Fatalf("%s of %+v: %v", name, c, result)
			}
		}
	}
	for name, errors := range found {
		want := map[api.Errno]bool{api.OK: true, api.ErrArg: true}
		if slices.Contains([]string{"Past", "Shortest", "Balance"}, name) {
			want[api.ErrNone] = true
		}
		if !reflect.DeepEqual(errors, want) {
			t.Errorf("the errors of %s are %v", name, errors)
		}
	}
}
