package remnant_test

import (
	"fmt"
	"math"
	"reflect"
	"slices"
	"testing"

	"galloon/api"
	"galloon/remnant"
)

// call is what every function is called with.
type call struct {
	room         int
	pieces, list []int
	a            int
}

// results calls every function, and lists what each one returns.
func (c call) results() map[string][]any {
	list := func(values ...any) []any { return values }
	number := func(n int, e api.Errno) []any { return list(n, e) }
	numbers := func(l []int, e api.Errno) []any { return list(l, e) }
	both := func(l []int, n int, e api.Errno) []any { return list(l, n, e) }
	weight, a, e := remnant.Weight(c.room, c.pieces)
	return map[string][]any{
		"Best": both(remnant.Best(c.room, c.pieces)), "Check": number(remnant.Check(c.room, c.pieces, c.list)), "First": numbers(remnant.First(c.room, c.pieces)),
		"Tight": numbers(remnant.Tight(c.room, c.pieces)), "Falling": numbers(remnant.Falling(c.room, c.pieces)), "Weigh": number(remnant.Weigh(c.room, c.pieces, c.a)),
		"Weight": list(weight, a, e), "Fill": both(remnant.Fill(c.room, c.pieces)), "IsFilling": number(remnant.IsFilling(c.room, c.pieces, c.list)),
		"Ways": number(remnant.Ways(c.room, c.pieces)), "Loads": numbers(remnant.Loads(c.room, c.pieces, c.list)), "Split": both(remnant.Split(c.pieces)),
		"Rest": both(remnant.Rest(c.room, c.pieces)),
	}
}

// errors tells, as the chapter does, which errors the functions return.
func (c call) errors() map[string]api.Errno {
	errors := map[string]api.Errno{}
	set := func(errno api.Errno, names ...string) {
		for _, name := range names {
			if errors[name] == api.OK {
				errors[name] = errno
			}
		}
	}
	if !arePieces(c.room, c.pieces) {
		set(api.ErrArg, "Best", "Check", "First", "Tight", "Falling", "Weigh", "Weight", "Fill", "IsFilling", "Ways", "Loads", "Rest")
	} else {
		if c.a < 0 || c.a > c.room/2 {
			set(api.ErrArg, "Weigh")
		}
		if !isPacking(c.pieces, c.list) {
			set(api.ErrArg, "Check", "Loads")
		} else if !isRight(c.room, c.pieces, c.list) {
			set(api.ErrAnswer, "Check")
		}
		if !isNumbered(c.pieces, c.list) {
			set(api.ErrArg, "IsFilling")
		} else if !isFull(c.room, c.pieces, c.list) {
			set(api.ErrAnswer, "IsFilling")
		}
	}
	if !arePieces(api.MaxRoom, c.pieces) {
		set(api.ErrArg, "Split")
	}
	return errors
}

// isEmpty tells whether a result is its zero value, or an empty list.
func isEmpty(value any) bool {
	v := reflect.ValueOf(value)
	return v.Kind() == reflect.Slice && v.Len() == 0 || v.Kind() != reflect.Slice && v.IsZero()
}

// wantErrors checks that the functions return the right errors, and nothing besides an error.
func wantErrors(t *testing.T, c call) {
	t.Helper()
	errors := c.errors()
	for name, result := range c.results() {
		last := len(result) - 1
		if result[last] != errors[name] {
			t.Fatalf("%s of %.300v: %.300v, want the error %d", name, fmt.Sprint(c), fmt.Sprint(result), errors[name])
		}
		if result[last] != api.OK && slices.ContainsFunc(result[:last], func(value any) bool { return !isEmpty(value) }) {
			t.Fatalf("%s of %.300v: %.300v, want nothing besides an error", name, fmt.Sprint(c), fmt.Sprint(result))
		}
	}
}

// noInts are numbers that are never a room, a size or a box.
func noInts() []int {
	return []int{-2, -3, -12, -100, 101, 102, 200, 1 << 32, 1<<32 + 1, -1 << 32, 1 - 1<<32, math.MinInt, math.MinInt + 1, math.MaxInt, math.MaxInt - 1, math.MaxInt/2 + 1, math.MinInt / 2}
}

// The errors: what are no pieces for the room lead to ErrArg, whatever the other arguments are.
func TestNoPieces(t *testing.T) {
	long := slices.Repeat([]int{1}, 1<<20)
	for _, s := range []stock{{0, nil}, {-1, nil}, {101, nil}, {0, []int{1}}, {0, []int{0}}, {4, []int{5}}, {5, []int{5}}, {1, long}, {100, long}, {0, long}, {100, make([]int, 12)}, {100, make([]int, 13)}, {100, long[:13]}, {100, long[:12]}, {1, long[:12]}, {100, long[:16]}, {100, long[:17]}, {1, long[:64]}, {1, long[:65]}} {
		for _, list := range [][]int{nil, {0}, make([]int, min(len(s.pieces), 100)), s.pieces} {
			for _, a := range []int{0, -1, 50, math.MaxInt} {
				wantErrors(t, call{s.room, s.pieces, list, a})
			}
		}
	}
	for _, s := range slices.Concat(stocksOf(1, 1), stocksOf(4, 1), stocksOf(12, 1)) {
		n := len(s.pieces)
		for _, room := range append(noInts(), -1, 0, s.room-1, s.room+1, slices.Max(s.pieces), slices.Max(s.pieces)-1) {
			wantErrors(t, call{room, s.pieces, make([]int, n), 0})
		}
		if n > 4 && s.room != 100 {
			continue
		}
		for i := 0; i < n; i += 1 + n/4 {
			for _, size := range append(noInts(), -1, 0, s.room, s.room+1) {
				pieces := slices.Clone(s.pieces)
				pieces[i] = size
				wantErrors(t, call{s.room, pieces, upTo(0, n-1), 1})
				wantErrors(t, call{size, pieces, make([]int, n), 0})
			}
		}
	}
}

// The errors: all rooms from below to above the limits, with no pieces, with those of the limits and with one beyond.
func TestRooms(t *testing.T) {
	for room := -2; room <= 103; room++ {
		wantErrors(t, call{room: room})
		for size := room - 1; size <= room+1; size++ {
			for _, n := range []int{1, 2, 11, 12, 13} {
				if n < 11 || room%10 < 2 {
					wantErrors(t, call{room, slices.Repeat([]int{size}, n), upTo(0, n-1), room/2 + 1})
				}
			}
		}
	}
}

// The errors: what is no packing leads to ErrArg, after the errors of the pieces.
func TestNoPackings(t *testing.T) {
	long := make([]int, 1<<20)
	for _, s := range append(stocksOf(4, 1), stock{10, nil}, stock{100, slices.Repeat([]int{100}, 12)}, stock{1, []int{1}}) {
		n := len(s.pieces)
		lists := [][]int{nil, {}, long, long[:n], long[:n+1], upTo(0, n-1), upTo(0, n), upTo(1, n), upTo(-1, n-2), slices.Repeat([]int{-1}, n), slices.Repeat([]int{-1}, n+1), slices.Repeat([]int{-2}, n)}
		for i := range n {
			for _, box := range append(noInts(), -1, 0, 1, 2, 3, 4, 11, 12, 13) {
				list := make([]int, n)
				list[i] = box
				other := upTo(0, n-1)
				other[i] = box
				lists = append(lists, list, other)
			}
			lists = append(lists, long[:i])
		}
		for i, list := range lists {
			wantChecks(t, s, list)
			wantErrors(t, call{s.room - 100, s.pieces, list, 0})
			if n < 12 || i%16 == 0 {
				wantErrors(t, call{s.room, s.pieces, list, 0})
			}
		}
	}
}

// The errors: those that are stated are returned, and no others.
func TestErrorsAlone(t *testing.T) {
	found := map[string]map[api.Errno]bool{}
	for _, c := range calls() {
		for name, result := range c.results() {
			if found[name] == nil {
				found[name] = map[api.Errno]bool{}
			}
			found[name][result[len(result)-1].(api.Errno)] = true
		}
	}
	for name, errors := range found {
		want := map[api.Errno]bool{api.OK: true, api.ErrArg: true}
		if name == "Check" || name == "IsFilling" {
			want[api.ErrAnswer] = true
		}
		if !reflect.DeepEqual(errors, want) {
			t.Errorf("the errors of %s are %v", name, errors)
		}
	}
}

// calls returns calls with right and with wrong arguments.
func calls() []call {
	list := []call{{}, {room: 10}, {room: 1, pieces: []int{2}}, {room: 10, pieces: []int{6, 5}, list: []int{0, 0}, a: 5}}
	for i, s := range slices.Concat(stocksOf(3, 1), stocksOf(7, 1), stocksOf(12, 1)) {
		n := len(s.pieces)
		if n == 12 && i%5 > 0 {
			continue
		}
		for _, packing := range [][]int{upTo(0, n-1), make([]int, n), slices.Repeat([]int{-1}, n), slices.Repeat([]int{3}, n)}[i%4:] {
			list = append(list, call{s.room, roomy(s.pieces), roomy(packing), i % (s.room/2 + 2)})
		}
	}
	return append(list, call{10, make([]int, 3), make([]int, 3), 0}, call{100, upTo(99, 101), upTo(0, 2), 0})
}

// roomy returns the list with room beyond its end, which shows whether somebody appends to it.
func roomy(list []int) []int {
	longer := append(slices.Clone(list), -70, -71, -72)
	return longer[:len(list)]
}

// memory returns all that the arguments hold, beyond the ends of their lists too.
func (c call) memory() string {
	return fmt.Sprint(c, c.pieces[:cap(c.pieces)], c.list[:cap(c.list)])
}

// P2 and rule 5: the same call returns the same, whatever is called, and done with results, in between;
// it changes no argument.
func TestRepeatedCalls(t *testing.T) {
	var before []string
	list := calls()
	for _, c := range list {
		text := c.memory()
		before = append(before, fmt.Sprint(c.results()))
		for name, result := range c.results() {
			for _, value := range result {
				spoil(value)
			}
			if c.memory() != text {
				t.Fatalf("%s is %s after %s", text, c.memory(), name)
			}
		}
	}
	for i, c := range list {
		if results := fmt.Sprint(c.results()); before[i] != results {
			t.Fatalf("%+v: first %v, then %v", c, before[i], results)
		}
	}
}

// spoil overwrites a result to the end of its memory, which is nobody else's.
func spoil(value any) {
	if list, ok := value.([]int); ok {
		list = list[:cap(list)]
		for i := range list {
			list[i] = -7
		}
	}
}
