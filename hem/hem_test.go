package hem_test

import (
	"fmt"
	"math"
	"reflect"
	"slices"
	"testing"

	"galloon/api"
	"galloon/hem"
)

// call is what every function is called with.
type call struct {
	seam, other api.Seam
	i           int
	t           api.Frac
	knot        int
	a, b        int
}

// right returns a call with right arguments, but for a knot that is at the beginning of the span.
func right(seam api.Seam) call {
	begin, _ := span(seam)
	return call{seam: seam, other: seam, t: of(begin, 1), knot: begin}
}

// results calls every function, and lists what each one returns.
func (c call) results() map[string][]any {
	list := func(values ...any) []any { return values }
	fraction := func(f api.Frac, e api.Errno) []any { return list(f, e) }
	fractions := func(l []api.Frac, e api.Errno) []any { return list(l, e) }
	seam := func(s api.Seam, e api.Errno) []any { return list(s, e) }
	turns, e := hem.Turns(c.seam)
	low, high, f := hem.Bounds(c.seam)
	return map[string][]any{
		"Hat": fraction(hem.Hat(c.seam, c.i, c.t)), "Value": fraction(hem.Value(c.seam, c.t)), "Values": fractions(hem.Values(c.seam)),
		"Insert": seam(hem.Insert(c.seam, c.knot)), "Slope": seam(hem.Slope(c.seam)), "Means": fractions(hem.Means(c.seam)), "Area": fraction(hem.Area(c.seam)),
		"Turns": list(turns, e), "Line": seam(hem.Line(c.seam.Knots, c.seam.Degree, c.a, c.b)), "Add": seam(hem.Add(c.seam, c.other)),
		"Bounds": list(low, high, f), "Reverse": seam(hem.Reverse(c.seam)),
	}
}

// wrong tells, as the chapter does, which functions return ErrArg.
func (c call) wrong() map[string]bool {
	isFactor := func(n int) bool { return -20 <= n && n <= 20 }
	wrong := map[string]bool{}
	if !isSeam(c.seam) {
		for _, name := range []string{"Hat", "Value", "Values", "Insert", "Slope", "Means", "Area", "Turns", "Add", "Bounds", "Reverse"} {
			wrong[name] = true
		}
	} else {
		begin, end := span(c.seam)
		wrong["Hat"] = !isTime(c.seam, c.t) || c.i < 0 || c.i >= len(c.seam.Heights)
		wrong["Value"] = !isTime(c.seam, c.t)
		wrong["Insert"] = c.knot <= begin || c.knot >= end || countOf(c.seam.Knots, c.knot) > c.seam.Degree
		wrong["Slope"] = c.seam.Degree == 0
		wrong["Add"] = !isSeam(c.other) || c.other.Degree != c.seam.Degree || !slices.Equal(c.other.Knots, c.seam.Knots)
	}
	wrong["Line"] = !areKnots(c.seam.Degree, c.seam.Knots) || !isFactor(c.a) || !isFactor(c.b) || c.seam.Degree == 0
	return wrong
}

// countOf returns how often a knot is there.
func countOf(knots []int, knot int) int {
	count := 0
	for _, other := range knots {
		if other == knot {
			count++
		}
	}
	return count
}

// isEmpty tells whether a result is its zero value, or an empty list, or a seam with empty lists.
func isEmpty(value any) bool {
	switch x := value.(type) {
	case []api.Frac:
		return len(x) == 0
	case api.Seam:
		return x.Degree == 0 && len(x.Knots) == 0 && len(x.Heights) == 0
	}
	return reflect.ValueOf(value).IsZero()
}

// wantErrors checks that exactly the right functions return ErrArg, and nothing besides an error.
func wantErrors(t *testing.T, c call) {
	t.Helper()
	wrong := c.wrong()
	for name, result := range c.results() {
		last := len(result) - 1
		if (result[last] == api.ErrArg) != wrong[name] {
			t.Fatalf("%s of %.300v: %.300v, want ErrArg: %t", name, fmt.Sprint(c), fmt.Sprint(result), wrong[name])
		}
		if result[last] != api.OK && slices.ContainsFunc(result[:last], func(value any) bool { return !isEmpty(value) }) {
			t.Fatalf("%s of %.300v: %.300v, want nothing besides an error", name, fmt.Sprint(c), fmt.Sprint(result))
		}
	}
}

// The helpers: all seams are seams, so that the tests test what they claim to.
func TestSeams(t *testing.T) {
	for _, seam := range largerSeams() {
		if !isSeam(seam) {
			t.Errorf("%v is no seam", seam)
		}
	}
}

// noInts are numbers that are never a degree or a knot.
func noInts() []int {
	return []int{-1, -2, -20, 21, 22, 100, 1 << 32, -1 << 32, math.MinInt, math.MinInt + 1, math.MaxInt, math.MaxInt - 1, math.MaxInt/2 + 1, math.MinInt / 2}
}

// noHeights are fractions that are no heights.
func noHeights() []api.Frac {
	list := []api.Frac{{}, of(0, 2), of(0, 6), of(0, -1), of(2, 2), of(-2, 2), of(2, 4), of(-3, 6), of(4, 6), of(1000, 6), of(1, -1), of(-1, -1), of(1, -6)}
	for den := -7; den <= 13; den++ {
		if den > 6 || den < 1 {
			list = append(list, of(1, den), of(-1, den), of(0, den), of(den, den))
		} else {
			list = append(list, of(1001, den), of(-1001, den), of(1003, den), of(-1009, den))
		}
	}
	for _, big := range []int{math.MinInt, math.MinInt + 1, math.MaxInt, 1 << 32, -1 << 32} {
		list = append(list, of(big, 1), of(big, 5), of(1, big), of(0, big), of(big, big), of(big, 0))
	}
	return list
}

// noSeams returns values like a seam, few of which are seams.
func noSeams(seam api.Seam) []api.Seam {
	var list []api.Seam
	with := func(degree int, knots []int, heights []api.Frac) {
		list = append(list, api.Seam{Degree: degree, Knots: knots, Heights: heights})
	}
	n, k := len(seam.Heights), len(seam.Knots)
	for _, degree := range append(noInts(), 0, 1, 2, 3, 4, 5) {
		if degree != seam.Degree {
			with(degree, seam.Knots, seam.Heights)
			with(degree, seam.Knots, make([]api.Frac, max(0, min(k-degree-1, 20))))
			with(degree, seam.Knots, slices.Repeat(wholes(1), max(0, min(k, k-1-max(degree, -1)))))
		}
	}
	for _, heights := range [][]api.Frac{nil, {}, seam.Heights[:n-1], seam.Heights[1:], append(slices.Clone(seam.Heights), of(1, 1)), slices.Repeat(seam.Heights, 2), make([]api.Frac, n)} {
		with(seam.Degree, seam.Knots, heights)
	}
	for _, knots := range [][]int{nil, {}, seam.Knots[:k-1], seam.Knots[1:], append(slices.Clone(seam.Knots), 20), append([]int{0}, seam.Knots...), slices.Repeat(seam.Knots, 2), make([]int, k)} {
		with(seam.Degree, knots, seam.Heights)
		if len(knots) > seam.Degree {
			with(seam.Degree, knots, slices.Repeat(wholes(1), len(knots)-seam.Degree-1))
		}
	}
	for i := range n {
		for _, height := range noHeights() {
			heights := slices.Clone(seam.Heights)
			heights[i] = height
			with(seam.Degree, seam.Knots, heights)
		}
	}
	for i := range k {
		for _, knot := range append(noInts(), 0, 20, seam.Knots[i]-1, seam.Knots[i]+1, seam.Knots[0], seam.Knots[k-1], seam.Knots[k/2]) {
			knots := slices.Clone(seam.Knots)
			knots[i] = knot
			with(seam.Degree, knots, seam.Heights)
		}
	}
	return list
}

// The errors: what is no seam leads to ErrArg in all functions, whatever the other arguments are.
func TestNoSeams(t *testing.T) {
	long := make([]int, 1<<20)
	list := []api.Seam{{}, {Degree: 3}, {Knots: long}, {Heights: make([]api.Frac, 1<<20)}, {Degree: 3, Knots: long, Heights: slices.Repeat(wholes(1), 1<<20-4)}}
	for _, seam := range knownSeams() {
		list = append(list, noSeams(seam)...)
	}
	for i, seam := range slices.Collect(randomSeams) {
		if i%16 == 0 {
			list = append(list, noSeams(seam)...)
		}
	}
	none := 0
	for i, seam := range list {
		if !isSeam(seam) {
			none++
		}
		wantErrors(t, call{seam: seam, other: first(), t: of(1, 1), knot: 1})
		wantErrors(t, call{seam: first(), other: seam, t: of(1, 1), knot: 1})
		if i%10 == 0 {
			wantErrors(t, call{seam: seam, other: seam, i: -1, t: of(1, 0), knot: -1, a: 100, b: -100})
			wantErrors(t, call{seam: seam, other: arch(), i: math.MaxInt, t: of(math.MinInt, math.MinInt), knot: math.MinInt, a: math.MinInt, b: math.MaxInt})
		}
	}
	if none < 10000 {
		t.Errorf("only %d are no seams", none)
	}
}

// The errors: of all short lists of knots, exactly those are knots of a seam that the chapter calls so.
func TestAllKnots(t *testing.T) {
	found := map[int]int{}
	for degree := range 5 {
		for n := range 9 {
			most := 3
			if n > 5 {
				most = 2
			}
			for knots := range tuples(n, most) {
				heights := slices.Repeat(wholes(1), max(0, n-degree-1))
				seam := seamOf(degree, knots, heights...)
				if isSeam(seam) {
					found[degree]++
				}
				wantErrors(t, call{seam: seam, other: seam, t: of(1, 1), knot: 1, a: 1, b: 1})
			}
		}
	}
	if found[0] != 11 || found[1] != 32 || found[2] != 15 || found[3] != 9 || found[4] != 0 {
		t.Errorf("they are knots of so many seams: %v", found)
	}
}

// The errors: the limits of seams are seams, and what is beyond is none.
func TestLimits(t *testing.T) {
	for degree := -1; degree <= api.MaxDegree+1; degree++ {
		for n := 0; n <= api.MaxKnots+2; n++ {
			for _, last := range []int{n, api.MaxKnot, api.MaxKnot + 1} {
				for _, height := range []api.Frac{of(1000, 1), of(-1000, 1), of(997, 6), of(-997, 6), of(1, 6), of(1001, 1), of(-1001, 6), of(1, 7), of(-1, 12)} {
					seam := seamOf(degree, upTo(last-n+1, last), slices.Repeat([]api.Frac{height}, max(0, n-degree-1))...)
					wantErrors(t, call{seam: seam, other: seam, t: of(last-n+1+max(degree, 0), 1)})
				}
			}
		}
	}
}

// The errors: what is no time leads to ErrArg in Hat and Value, and what is no position of a height in Hat.
func TestNoTimes(t *testing.T) {
	for j, seam := range largerSeams() {
		if j > 40 && j%8 > 0 {
			continue
		}
		begin, end := span(seam)
		times := append(noHeights(), of(13*begin+1, 13), of(13*end-1, 13), of(2*begin+2, 2), of(3*end-3, 3), of(12*begin, 12), of(12*end, 12), of(-begin, -1), of(-2*begin-1, -2))
		for den := -1; den <= 15; den++ {
			for _, num := range []int{den*begin - 1, den * begin, den*begin + 1, den*end - 1, den * end, den*end + 1} {
				times = append(times, of(num, den), of(-num, -den))
			}
		}
		for _, time := range times {
			c := right(seam)
			c.t = time
			wantErrors(t, c)
			c.i = -1
			wantErrors(t, c)
		}
		for _, i := range append(noInts(), 0, 1, len(seam.Heights)-1, len(seam.Heights), len(seam.Heights)+1, len(seam.Knots)-1, len(seam.Knots)) {
			c := right(seam)
			c.i = i
			wantErrors(t, c)
		}
	}
}

// The errors: knots that are not inside the span, or are there often enough, lead to ErrArg in Insert.
func TestNoKnots(t *testing.T) {
	for seam := range seams {
		for _, knot := range append(noInts(), upTo(0, 20)...) {
			_, e := hem.Insert(seam, knot)
			if wrong := (call{seam: seam, knot: knot}).wrong()["Insert"]; (e == api.ErrArg) != wrong {
				t.Fatalf("Insert(%v, %d): %d, want ErrArg: %t", seam, knot, e, wrong)
			}
		}
	}
}

// The errors: factors that are not from -20 to 20 lead to ErrArg in Line.
func TestNoFactors(t *testing.T) {
	numbers := append(noInts(), upTo(-22, 22)...)
	for _, seam := range knownSeams() {
		for _, a := range numbers {
			for _, b := range numbers {
				_, e := hem.Line(seam.Knots, seam.Degree, a, b)
				if wrong := (call{seam: seam, a: a, b: b}).wrong()["Line"]; (e == api.ErrArg) != wrong {
					t.Fatalf("Line(%v, %d, %d, %d): %d, want ErrArg: %t", seam.Knots, seam.Degree, a, b, e, wrong)
				}
			}
		}
	}
}

// The errors: seams with other degrees or knots lead to ErrArg in Add.
func TestOtherSeams(t *testing.T) {
	list := largerSeams()
	for _, seam := range knownSeams() {
		for _, other := range list {
			wantErrors(t, call{seam: seam, other: other})
		}
		for i := range seam.Knots {
			for _, by := range []int{-1, 1} {
				knots := slices.Clone(seam.Knots)
				knots[i] += by
				other := seamOf(seam.Degree, knots, seam.Heights...)
				wantErrors(t, call{seam: seam, other: other})
			}
		}
	}
	// These differ in the degree alone.
	for degree := range api.MaxDegree + 1 {
		for other := range api.MaxDegree + 1 {
			knots := upTo(0, 9)
			wantErrors(t, call{seam: seamOf(degree, knots, wholes(upTo(0, 8-degree)...)...), other: seamOf(other, knots, wholes(upTo(0, 8-other)...)...)})
		}
	}
}

// The errors: ErrFull is returned by the functions alone for which it is stated, and together with nothing else.
func TestErrorsAlone(t *testing.T) {
	found := map[string]map[api.Errno]bool{}
	note := func(c call) {
		for name, result := range c.results() {
			last := len(result) - 1
			errno := result[last].(api.Errno)
			if found[name] == nil {
				found[name] = map[api.Errno]bool{}
			}
			found[name][errno] = true
			if errno != api.OK && slices.ContainsFunc(result[:last], func(value any) bool { return !isEmpty(value) }) {
				t.Fatalf("%s of %+v: %v", name, c, result)
			}
		}
	}
	note(call{})
	for seam := range seams {
		for _, knot := range spanKnots(seam) {
			c := right(seam)
			c.knot, c.a, c.b = knot+1, 20, -20
			note(c)
			c.a, c.b = -20, -20
			note(c)
		}
	}
	for name, errors := range found {
		want := map[api.Errno]bool{api.OK: true, api.ErrArg: true}
		if slices.Contains([]string{"Insert", "Slope", "Line", "Add"}, name) {
			want[api.ErrFull] = true
		}
		if !reflect.DeepEqual(errors, want) {
			t.Errorf("the errors of %s are %v", name, errors)
		}
	}
}

// calls returns calls with right and with wrong arguments.
func calls() []call {
	list := []call{{}, {i: -1}, {seam: api.Seam{Degree: 1}}}
	for j, seam := range largerSeams() {
		times := someTimes(seam)
		c := call{roomy(seam), roomy(seam), j % len(seam.Heights), times[j%len(times)], j % 21, j%41 - 20, 20 - j%41}
		c.other.Heights[0] = of(j, 1)
		list = append(list, c)
		if j%8 == 0 {
			list = append(list, call{roomy(noSeams(seam)[j%30]), roomy(seam), 0, times[0], 1, 1, 1})
		}
	}
	return list
}

// roomy returns the seam with room beyond the ends of its lists, which shows whether somebody appends to them.
func roomy(seam api.Seam) api.Seam {
	knots := append(slices.Clone(seam.Knots), -70, -71, -72)
	heights := append(slices.Clone(seam.Heights), of(-70, -70), of(-71, -71))
	return api.Seam{Degree: seam.Degree, Knots: knots[:len(seam.Knots)], Heights: heights[:len(seam.Heights)]}
}

// memory returns all that the arguments hold, beyond the ends of their lists too.
func (c call) memory() string {
	text := fmt.Sprint(c)
	for _, seam := range []api.Seam{c.seam, c.other} {
		text += fmt.Sprint(seam.Knots[:cap(seam.Knots)], seam.Heights[:cap(seam.Heights)])
	}
	return text
}

// P2 and rule 5: the same call returns the same, whatever is called, and done with results, in between;
// it changes no argument.
func TestRepeatedCalls(t *testing.T) {
	var before []string
	list := calls()
	for _, c := range list {
		text := c.memory()
		before = append(before, fmt.Sprint(c.results()))
		for name, result := range c.results() {
			for _, value := range result {
				spoil(value)
			}
			if c.memory() != text {
				t.Fatalf("%s is %s after %s", text, c.memory(), name)
			}
		}
	}
	for i, c := range list {
		if results := fmt.Sprint(c.results()); before[i] != results {
			t.Fatalf("%+v: first %v, then %v", c, before[i], results)
		}
	}
}

// spoil overwrites a result to the end of its memory, which is nobody else's.
func spoil(value any) {
	switch x := value.(type) {
	case []api.Frac:
		x = x[:cap(x)]
		for i := range x {
			x[i] = of(-7, -7)
		}
	case api.Seam:
		knots := x.Knots[:cap(x.Knots)]
		for i := range knots {
			knots[i] = -7
		}
		spoil(x.Heights)
	}
}
