package tower_test

import (
	"math"
	"math/rand/v2"
	"reflect"
	"slices"
	"strings"
	"testing"

	"galloon/api"
	"galloon/tower"
)

// call is what every function is called with.
type call struct {
	a, b    string
	n, m, k int
}

// results calls every function, and lists what each one returns.
func (c call) results() map[string][]any {
	list := func(values ...any) []any { return values }
	text := func(s string, e api.Errno) []any { return list(s, e) }
	number := func(n int, e api.Errno) []any { return list(n, e) }
	texts := func(l []string, e api.Errno) []any { return list(l, e) }
	bumped, ordinal, e := tower.Bumped(c.m, c.n)
	numbers, ordinals, x := tower.Goodstein(c.m, c.k)
	return map[string][]any{
		"Compare": number(tower.Compare(c.a, c.b)), "Sum": text(tower.Sum(c.a, c.b)), "Product": text(tower.Product(c.a, c.b)),
		"Blend": text(tower.Blend(c.a, c.b)), "Rest": text(tower.Rest(c.a, c.b)), "Kind": number(tower.Kind(c.a)), "Step": text(tower.Step(c.a, c.n)),
		"Descent": texts(tower.Descent(c.a, c.n)), "Bumped": list(bumped, ordinal, e), "Goodstein": list(numbers, ordinals, x),
		"Chop": text(tower.Chop(c.a, c.k, c.n)), "Heads": number(tower.Heads(c.a)), "Measure": text(tower.Measure(c.a)), "Number": text(tower.Number(c.n)),
	}
}

// isEmpty tells whether a result is its zero value, or an empty list.
func isEmpty(value any) bool {
	v := reflect.ValueOf(value)
	return v.Kind() == reflect.Slice && v.Len() == 0 || v.Kind() != reflect.Slice && v.IsZero()
}

// wantErrno checks that these functions return an error and zero values.
func wantErrno(t *testing.T, c call, errno api.Errno, names ...string) {
	t.Helper()
	results := c.results()
	for _, name := range names {
		result := results[name]
		last := len(result) - 1
		if result[last] != errno || slices.ContainsFunc(result[:last], func(value any) bool { return !isEmpty(value) }) {
			t.Errorf("%s of %.200v: %.200v, want the error %d", name, c, result, errno)
		}
	}
}

// The errors: texts that are no ordinals lead to ErrSyntax in every function, whatever else is wrong.
func TestNoOrdinals(t *testing.T) {
	for _, text := range noOrdinals() {
		if _, ok := parse(text); ok {
			t.Fatalf("%.200s is an ordinal", text)
		}
		for _, n := range []int{0, 1, 1000, -1, 1001, math.MinInt, math.MaxInt} {
			wantErrno(t, call{a: text, b: "0", n: n}, api.ErrSyntax, "Compare", "Sum", "Product", "Blend", "Rest", "Kind", "Step", "Descent")
		}
		// These come before ErrNone and ErrFull.
		for _, a := range []string{"0", nested(60).String(), "w^(0)*1000", text} {
			wantErrno(t, call{a: a, b: text}, api.ErrSyntax, "Compare", "Sum", "Product", "Blend", "Rest")
		}
	}
}

// The errors: texts that are no hydras lead to ErrSyntax in every function, whatever else is wrong.
func TestNoHydras(t *testing.T) {
	for _, text := range noHydras() {
		if isHydra(text) {
			t.Fatalf("%.200s is a hydra", text)
		}
		for _, n := range []int{0, 1, 1000, -1, 1001, math.MinInt, math.MaxInt} {
			wantErrno(t, call{a: text, n: n, k: -n}, api.ErrSyntax, "Chop", "Heads", "Measure")
		}
	}
}

// wantOrdinal checks whether a text is taken for an ordinal, and for the right one.
func wantOrdinal(t *testing.T, text string) bool {
	t.Helper()
	a, ok := parse(text)
	k, e := tower.Kind(text)
	if ok && (e != api.OK || k != kindOf(a)) || !ok && (e != api.ErrSyntax || k != 0) {
		t.Fatalf("Kind(%s) = %d, %d", text, k, e)
	}
	if s, e := tower.Sum(text, "0"); ok && (e != api.OK || s != text) || !ok && (e != api.ErrSyntax || s != "") {
		t.Fatalf("Sum(%s, 0) = %s, %d", text, s, e)
	}
	return ok
}

// Terms: of all short rows of the pieces of ordinals, exactly the ordinals are accepted.
func TestTextsOfOrdinals(t *testing.T) {
	count := 0
	for _, pieces := range [][]string{{"0", "w^(", ")*", "1", "+"}, {"0", one, "w^(", ")*1", ")*2", "+"}} {
		texts := []string{""}
		for range 6 {
			var longer []string
			for _, text := range texts {
				for _, piece := range pieces {
					longer = append(longer, text+piece)
				}
			}
			for _, text := range longer {
				if wantOrdinal(t, text) {
					count++
				}
			}
			texts = longer
		}
	}
	if count < 40 {
		t.Errorf("%d texts only are ordinals", count)
	}
}

// Terms: ordinals with a byte added, taken away or replaced are accepted if they are ordinals.
func TestChangedTexts(t *testing.T) {
	r := rand.New(rand.NewPCG(7, 7))
	count := map[bool]int{}
	for _, a := range slices.Concat(ordinalsUpTo(4, 1, 2), ordinalsUpTo(2, 9, 10, 100, 1000), largeOrdinals()) {
		text := a.String()
		for at := range min(len(text), 60) {
			begin, end := text[:at], text[at+1:]
			piece := string("0123456789+()*^w -\x00"[r.IntN(19)])
			for _, changed := range []string{begin + end, begin + piece + text[at:], begin + piece + end, begin + text[at:at+1] + text[at:]} {
				count[wantOrdinal(t, changed)]++
			}
		}
	}
	if count[true] < 500 || count[false] < 5000 {
		t.Errorf("%d texts are ordinals, %d are not", count[true], count[false])
	}
}

// Terms: of all short rows of parentheses, and of all numbers of pairs, exactly the hydras are accepted.
func TestTextsOfHydras(t *testing.T) {
	texts := []string{""}
	for range 12 {
		var longer []string
		for _, text := range texts {
			longer = append(longer, text+"(", text+")")
		}
		texts = append(longer, texts[0]+"0")
		for _, text := range texts {
			n, e := tower.Heads(text)
			if isHydra(text) && (e != api.OK || n != len(headsOf(text))) || !isHydra(text) && (e != api.ErrSyntax || n != 0) {
				t.Fatalf("Heads(%s) = %d, %d", text, n, e)
			}
		}
	}
	for size := 1; size <= 210; size++ {
		for _, text := range []string{deep(size), flat(size)} {
			if _, e := tower.Heads(text); e == api.OK != (size <= api.MaxHydra) || e != api.OK && e != api.ErrSyntax {
				t.Fatalf("Heads(%s): %d", text, e)
			}
		}
	}
}

// Terms: all sizes up to MaxSize, and all numbers C from 1 to MaxTimes, are those of ordinals.
func TestLimitsOfOrdinals(t *testing.T) {
	for size := 0; size <= 70; size++ {
		for _, a := range []ord{nested(size), wide(size, 1000)} {
			if wantOrdinal(t, a.String()) != (size <= api.MaxSize) {
				t.Fatalf("%v: the definition says otherwise", a)
			}
		}
	}
	for times := 0; times <= 1100; times++ {
		for _, a := range []ord{{{nil, times}}, {{natural(1), times}}, {{ord{{nil, times}}, 1}}} {
			if wantOrdinal(t, a.String()) != (times >= 1 && times <= api.MaxTimes) {
				t.Fatalf("%v: the definition says otherwise", a)
			}
		}
	}
}

// calls returns calls with right and with wrong arguments.
func calls() []call {
	list := []call{{}, {a: "(", b: ")"}, {a: w, b: "x", n: -1, m: -1, k: -1}, {n: math.MaxInt, m: math.MaxInt, k: math.MaxInt}, {n: math.MinInt, m: math.MinInt, k: math.MinInt}}
	for i, a := range slices.Concat(ordinalsUpTo(3, 1, 3), largeOrdinals()) {
		list = append(list, call{a.String(), strings.Repeat(w, 1+i%2), i % 6, i, i % 51}, call{w, a.String(), i * i, i * i, i})
	}
	for i, hydra := range slices.Concat(hydras(5), largeHydras(), noHydras()[:20]) {
		list = append(list, call{hydra, w, i, 1000 * i, i % 4})
	}
	return list
}

// P2 and rule 5: the same call returns the same, whatever is called, and done with results, in between.
func TestRepeatedCalls(t *testing.T) {
	var before []map[string][]any
	list := calls()
	for _, c := range list {
		before = append(before, c.results())
		for _, result := range c.results() {
			for _, value := range result {
				spoil(value)
			}
		}
	}
	for i, c := range list {
		if results := c.results(); !reflect.DeepEqual(before[i], results) {
			t.Fatalf("%+v: first %v, then %v", c, before[i], results)
		}
	}
}

// spoil overwrites a result to the end of its memory, which is nobody else's.
func spoil(value any) {
	switch x := value.(type) {
	case []int:
		x = x[:cap(x)]
		for i := range x {
			x[i] = -7
		}
	case []string:
		x = x[:cap(x)]
		for i := range x {
			x[i] = "spoilt"
		}
	}
}

// Rule 4: with an error, every other result is its zero value; the errors are those that the chapter names.
func TestErrorsAlone(t *testing.T) {
	for _, c := range calls() {
		for name, result := range c.results() {
			last := len(result) - 1
			errno := result[last].(api.Errno)
			if errno != api.OK && slices.ContainsFunc(result[:last], func(value any) bool { return !isEmpty(value) }) {
				t.Fatalf("%s of %+v: %v", name, c, result)
			}
			if !slices.Contains([]api.Errno{api.OK, api.ErrArg, api.ErrSyntax, api.ErrFull, api.ErrNone}, errno) {
				t.Fatalf("%s of %+v: the error %d", name, c, errno)
			}
		}
	}
}
