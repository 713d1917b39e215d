package hem_test

import (
	"iter"
	"math/big"
	"math/rand/v2"
	"slices"

	"galloon/api"
)

// The helpers in this file follow the chapter's definitions literally, and share no code with the package.

func of(num, den int) api.Frac {
	return api.Frac{Num: num, Den: den}
}

// rat returns the value of a fraction.
func rat(f api.Frac) *big.Rat {
	return big.NewRat(int64(f.Num), int64(f.Den))
}

func number(n int) *big.Rat {
	return big.NewRat(int64(n), 1)
}

// frac returns a value as a fraction in lowest terms.
func frac(r *big.Rat) api.Frac {
	if !r.Num().IsInt64() || !r.Denom().IsInt64() {
		panic("outside the range of int")
	}
	return of(int(r.Num().Int64()), int(r.Denom().Int64()))
}

func fracs(list []*big.Rat) []api.Frac {
	var result []api.Frac
	for _, r := range list {
		result = append(result, frac(r))
	}
	return result
}

func add(x, y *big.Rat) *big.Rat      { return new(big.Rat).Add(x, y) }
func subtract(x, y *big.Rat) *big.Rat { return new(big.Rat).Sub(x, y) }
func multiply(x, y *big.Rat) *big.Rat { return new(big.Rat).Mul(x, y) }
func divide(x, y *big.Rat) *big.Rat   { return new(big.Rat).Quo(x, y) }

// wholes returns numbers as fractions.
func wholes(numbers ...int) []api.Frac {
	var list []api.Frac
	for _, n := range numbers {
		list = append(list, of(n, 1))
	}
	return list
}

func seamOf(degree int, knots []int, heights ...api.Frac) api.Seam {
	return api.Seam{Degree: degree, Knots: knots, Heights: heights}
}

// upTo returns the numbers from least to most.
func upTo(least, most int) []int {
	var list []int
	for n := least; n <= most; n++ {
		list = append(list, n)
	}
	return list
}

// isValid tells whether a fraction is valid.
func isValid(f api.Frac) bool {
	return f.Den >= 1 && rat(f).Denom().Cmp(big.NewInt(int64(f.Den))) == 0
}

func areKnots(degree int, knots []int) bool {
	if degree < 0 || degree > 3 || len(knots) < 2*degree+2 || len(knots) > 16 {
		return false
	}
	times := map[int]int{}
	for i, knot := range knots {
		times[knot]++
		if knot < 0 || knot > 20 || i > 0 && knot < knots[i-1] || times[knot] > degree+1 {
			return false
		}
	}
	return knots[degree] < knots[len(knots)-degree-1]
}

func isSeam(seam api.Seam) bool {
	if !areKnots(seam.Degree, seam.Knots) || len(seam.Heights) != len(seam.Knots)-seam.Degree-1 {
		return false
	}
	for _, f := range seam.Heights {
		if !isValid(f) || f.Den > 6 || f.Num < -1000 || f.Num > 1000 {
			return false
		}
	}
	return true
}

// span returns the first and the last knot of the span.
func span(seam api.Seam) (int, int) {
	return seam.Knots[seam.Degree], seam.Knots[len(seam.Knots)-seam.Degree-1]
}

func isTime(seam api.Seam, t api.Frac) bool {
	begin, end := span(seam)
	return isValid(t) && t.Den <= 12 && rat(t).Cmp(number(begin)) >= 0 && rat(t).Cmp(number(end)) <= 0
}

// hatOf returns the hat as it is defined, without a limit.
func hatOf(knots []int, degree, i int, t *big.Rat) *big.Rat {
	if degree == 0 {
		if number(knots[i]).Cmp(t) <= 0 && t.Cmp(number(knots[i+1])) < 0 {
			return number(1)
		}
		return number(0)
	}
	a, b, c, e := knots[i], knots[i+degree], knots[i+1], knots[i+degree+1]
	sum := number(0)
	if b != a {
		sum = add(sum, multiply(divide(subtract(t, number(a)), number(b-a)), hatOf(knots, degree-1, i, t)))
	}
	if e != c {
		sum = add(sum, multiply(divide(subtract(number(e), t), number(e-c)), hatOf(knots, degree-1, i+1, t)))
	}
	return sum
}

// hatAt returns the hat at a time. At the end of the span, the limit of polynomials of the third degree at most
// follows from four points before it, as their fourth difference is 0; all knots are whole numbers.
func hatAt(seam api.Seam, i int, t *big.Rat) *big.Rat {
	if _, end := span(seam); t.Cmp(number(end)) != 0 {
		return hatOf(seam.Knots, seam.Degree, i, t)
	}
	sum := number(0)
	for j, factor := range []int{4, -6, 4, -1} {
		sum = add(sum, multiply(number(factor), hatOf(seam.Knots, seam.Degree, i, subtract(t, big.NewRat(int64(j+1), 5)))))
	}
	return sum
}

func valueAt(seam api.Seam, t *big.Rat) *big.Rat {
	sum := number(0)
	for i, height := range seam.Heights {
		sum = add(sum, multiply(rat(height), hatAt(seam, i, t)))
	}
	return sum
}

// spanKnots returns the different knots of the span in ascending order.
func spanKnots(seam api.Seam) []int {
	begin, end := span(seam)
	var list []int
	for knot := begin; knot <= end; knot++ {
		if slices.Contains(seam.Knots, knot) {
			list = append(list, knot)
		}
	}
	return list
}

func meansOf(degree int, knots []int) []*big.Rat {
	var list []*big.Rat
	for i := range len(knots) - degree - 1 {
		if degree == 0 {
			list = append(list, big.NewRat(int64(knots[i]+knots[i+1]), 2))
			continue
		}
		total := 0
		for j := i + 1; j <= i+degree; j++ {
			total += knots[j]
		}
		list = append(list, big.NewRat(int64(total), int64(degree)))
	}
	return list
}

func areaOf(seam api.Seam) *big.Rat {
	p, sum := seam.Degree, number(0)
	for i, height := range seam.Heights {
		sum = add(sum, multiply(rat(height), number(seam.Knots[i+p+1]-seam.Knots[i])))
	}
	return divide(sum, number(p+1))
}

// turnsOf counts the pairs of heights with different signs between which there are only heights 0.
func turnsOf(list []api.Frac) int {
	turns := 0
	for i := range list {
		for j := range i {
			if list[i].Num > 0 && list[j].Num < 0 || list[i].Num < 0 && list[j].Num > 0 {
				if !slices.ContainsFunc(list[j+1:i], func(f api.Frac) bool { return f.Num != 0 }) {
					turns++
				}
			}
		}
	}
	return turns
}

// someTimes returns the knots of the span, what lies closest to its ends, and a time of each Den.
func someTimes(seam api.Seam) []api.Frac {
	begin, end := span(seam)
	list := append(wholes(spanKnots(seam)...), of(12*begin+1, 12), of(12*end-1, 12))
	r := rand.New(rand.NewPCG(uint64(begin), uint64(end+len(seam.Knots))))
	for den := 2; den <= 12; den++ {
		t := of(den*begin+r.IntN(den*(end-begin)), den)
		for !isValid(t) {
			t.Num++
		}
		list = append(list, t)
	}
	return list
}

// everyTime returns all times in ascending order of their Dens.
func everyTime(seam api.Seam) []api.Frac {
	begin, end := span(seam)
	var list []api.Frac
	for den := 1; den <= 12; den++ {
		for num := den * begin; num <= den*end; num++ {
			if isValid(of(num, den)) {
				list = append(list, of(num, den))
			}
		}
	}
	return list
}

// tuples visits all lists of n numbers from 0 to most.
func tuples(n, most int) iter.Seq[[]int] {
	return func(yield func([]int) bool) {
		list := make([]int, n)
		for {
			if !yield(slices.Clone(list)) {
				return
			}
			at := n - 1
			for at >= 0 && list[at] == most {
				list[at] = 0
				at--
			}
			if at < 0 {
				return
			}
			list[at]++
		}
	}
}

const kinds = 8

// someHeights returns heights of one of the kinds for these knots.
func someHeights(r *rand.Rand, kind, degree int, knots []int) []api.Frac {
	var list []api.Frac
	a, b := r.IntN(11)-5, r.IntN(11)-5
	for i, mean := range meansOf(degree, knots) {
		f := of(0, 1)
		switch kind {
		case 0: // small ones, often 0
			f = of(max(r.IntN(8)-4, -2)/2*(1+r.IntN(3)), 1)
		case 1: // any of them
			f = lowestHeight(r.IntN(2001)-1000, 1+r.IntN(6))
		case 2: // close to the limits
			f = []api.Frac{of(1000, 1), of(-1000, 1), of(999, 2), of(-1000, 3), of(997, 4), of(-999, 5), of(997, 6), of(999, 1)}[r.IntN(8)]
		case 3: // all the same
			f = lowestHeight(b*7, 1+max(a, -a))
		case 4: // on a line
			f = frac(add(multiply(number(a), mean), number(b)))
		case 5: // divisible by many differences
			f = of(60*(r.IntN(9)-4), 1)
		case 6: // with a sign that changes, and without 0
			f = lowestHeight((1-i%2*2)*(1+r.IntN(30)), 1+r.IntN(6))
		case 7: // ascending steps
			f = of(i*i/2*6-r.IntN(2)*12, 1)
		}
		list = append(list, f)
	}
	return list
}

// lowestHeight returns a fraction in lowest terms.
func lowestHeight(num, den int) api.Frac {
	return frac(big.NewRat(int64(num), int64(den)))
}

// smallSeams visits seams with all short lists of knots from 0 to 3, two of each.
func smallSeams(yield func(api.Seam) bool) {
	r := rand.New(rand.NewPCG(8, 1))
	kind := 0
	for degree := 0; degree <= 3; degree++ {
		for n := 2*degree + 2; n <= 2*degree+4 && n < 10; n++ {
			for knots := range tuples(n, 3) {
				if !areKnots(degree, knots) {
					continue
				}
				for range 2 {
					kind++
					if !yield(seamOf(degree, knots, someHeights(r, kind%kinds, degree, knots)...)) {
						return
					}
				}
			}
		}
	}
}

// randomKnots returns knots that are far apart, or close together, with or without all of them at the ends.
func randomKnots(r *rand.Rand, degree, n int) []int {
	for {
		first, most := 0, api.MaxKnot
		if r.IntN(3) == 0 {
			first, most = r.IntN(9), 9+r.IntN(api.MaxKnot-8)
		}
		var knots []int
		for len(knots) < n {
			knot := first + r.IntN(most-first+1)
			for range 1 + r.IntN(degree+1)*r.IntN(2) {
				knots = append(knots, knot)
			}
		}
		knots = knots[:n]
		slices.Sort(knots)
		if r.IntN(3) == 0 {
			for i := range degree {
				knots[i], knots[n-1-i] = knots[degree], knots[n-1-degree]
			}
		}
		if areKnots(degree, knots) {
			return knots
		}
	}
}

// randomSeams visits seams of each degree with each number of knots.
func randomSeams(yield func(api.Seam) bool) {
	r := rand.New(rand.NewPCG(8, 20))
	for degree := 0; degree <= api.MaxDegree; degree++ {
		for n := 2*degree + 2; n <= api.MaxKnots; n++ {
			for kind := range kinds {
				knots := randomKnots(r, degree, n)
				seam := seamOf(degree, knots, someHeights(r, kind, degree, knots)...)
				if isSeam(seam) && !yield(seam) {
					return
				}
			}
		}
	}
}

// closedSeams visits seams with p + 1 knots at each end, and with up to p + 1 at two places between them.
func closedSeams(yield func(api.Seam) bool) {
	r := rand.New(rand.NewPCG(8, 3))
	for degree := 0; degree <= api.MaxDegree; degree++ {
		for times := range tuples(2, degree+1) {
			for _, kind := range []int{4, 5, 7} {
				knots := slices.Concat(slices.Repeat([]int{2}, degree+1), slices.Repeat([]int{4 + kind%2}, times[0]), slices.Repeat([]int{8}, times[1]), slices.Repeat([]int{12}, degree+1))
				if !yield(seamOf(degree, knots, someHeights(r, kind, degree, knots)...)) {
					return
				}
			}
		}
	}
}

// knownSeams returns the chapter's examples and seams at the limits.
func knownSeams() []api.Seam {
	return []api.Seam{
		first(), arch(),
		seamOf(0, []int{0, 1}, of(0, 1)), seamOf(0, []int{0, 20}, of(-1000, 1)), seamOf(0, []int{19, 20}, of(5, 6)),
		seamOf(0, upTo(0, 15), wholes(1, -1, 0, 0, 2, 0, -3, 4, 5, -6, 0, -7, 8, 0, 9)...),
		seamOf(1, []int{0, 0, 20, 20}, wholes(-1000, 1000)...), seamOf(1, []int{0, 3, 3, 7, 9}, wholes(5, -5, 1)...),
		seamOf(1, []int{0, 1, 2, 3}, wholes(4, -4)...), seamOf(1, []int{0, 0, 1, 1, 2, 2}, wholes(1, 2, 3, 4)...),
		seamOf(1, []int{1, 1, 2, 2, 3, 3, 4, 4, 5, 5, 6, 6, 7, 7, 8, 8}, wholes(0, 1, 0, -1, 2, -2, 0, 0, 3, 3, -3, 0, 0, -1)...),
		seamOf(2, []int{0, 0, 0, 1, 1, 1, 2, 2, 2}, wholes(3, -3, 3, 0, 6, 0)...),
		seamOf(2, []int{0, 0, 0, 1, 1, 3, 3, 3}, wholes(6, 0, -6, 6, 12)...),
		seamOf(2, []int{3, 4, 5, 17, 19, 20}, of(1000, 1), of(-999, 2), of(998, 3)),
		seamOf(3, []int{0, 0, 0, 0, 1, 1, 1, 1}, of(1, 2), of(-1, 3), of(5, 6), of(-7, 4)),
		seamOf(3, []int{0, 0, 0, 0, 20, 20, 20, 20}, wholes(1000, -1000, 1000, -1000)...),
		seamOf(3, upTo(0, 7), wholes(6, 12, -6, 24)...), seamOf(3, upTo(5, 20), of(997, 6), of(-997, 5), of(1, 4), of(-1, 3), of(1, 2), of(0, 1), of(7, 1), of(-8, 1), of(9, 5), of(-1000, 3), of(1000, 1), of(-5, 6)),
		seamOf(3, []int{0, 1, 1, 1, 1, 2, 2, 2, 2, 3}, wholes(0, 1, 2, 3, 4, 5)...),
		seamOf(3, []int{0, 2, 5, 9, 13, 16, 18, 20}, of(997, 6), of(-999, 5), of(1000, 1), of(-997, 4)),
		seamOf(3, []int{0, 0, 0, 0, 4, 4, 4, 8, 8, 8, 8, 12, 20, 20, 20, 20}, wholes(0, 12, -12, 24, 0, 0, 36, -48, 8, 0, 4, -4)...),
	}
}

// seams visits all of them.
func seams(yield func(api.Seam) bool) {
	for _, visit := range []iter.Seq[api.Seam]{smallSeams, randomSeams, closedSeams, slices.Values(knownSeams())} {
		for seam := range visit {
			if isSeam(seam) && !yield(seam) {
				return
			}
		}
	}
}

// largerSeams returns the known seams and the random ones.
func largerSeams() []api.Seam {
	return slices.AppendSeq(knownSeams(), randomSeams)
}

func first() api.Seam {
	return seamOf(1, []int{0, 0, 1, 2, 2}, wholes(0, 2, 1)...)
}

func arch() api.Seam {
	return seamOf(2, []int{0, 0, 0, 2, 2, 2}, wholes(0, 1, 0)...)
}
