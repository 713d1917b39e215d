package shuffle_test

import (
	"math"
	"math/big"
	"math/rand/v2"
	"slices"
	"testing"

	"galloon/api"
	"galloon/shuffle"
)

// P6.1: Values, for all short polynomials and small moduli, and for others.
func TestValuesByDefinition(t *testing.T) {
	check := func(m int, polynomial []int) {
		t.Helper()
		l, e := shuffle.Values(m, polynomial)
		wantList(t, "Values", m, polynomial, l, e, functionOf(m, polynomial), api.OK)
	}
	for m := range moduli {
		for _, polynomial := range polynomials(m) {
			check(m, polynomial)
		}
	}
	for m := 2; m <= 5; m++ {
		for n := range 5 {
			for polynomial := range lists(n, 0, m-1) {
				check(m, polynomial)
			}
		}
	}
}

// P6.1: Form, for all functions for small moduli: the polynomial ones are the sums of multiples of powers.
func TestFormOfAllFunctions(t *testing.T) {
	for m := 2; m <= 6; m++ {
		polynomial := polynomialFunctions(m)
		for function := range lists(m, 0, m-1) {
			wantForm(t, m, function, polynomial[key(function)] != nil)
		}
	}
}

// wantForm checks the form of a function.
func wantForm(t *testing.T, m int, function []int, isPolynomial bool) {
	t.Helper()
	form, e := shuffle.Form(m, function)
	if !isPolynomial {
		wantList(t, "Form", m, function, form, e, nil, api.ErrNone)
		return
	}
	if e != api.OK || !isForm(m, form) || !slices.Equal(functionOfForm(m, form), function) {
		t.Fatalf("Form(%d, %v) = %v, %d", m, function, form, e)
	}
	l, e := shuffle.Unform(m, form)
	wantList(t, "Unform", m, form, l, e, function, api.OK)
}

// P6.1 and P6.5: all polynomial functions have forms, different ones, and Count is their number.
func TestFormsOfPolynomialFunctions(t *testing.T) {
	r := rand.New(rand.NewPCG(6, 1))
	for _, m := range []int{2, 3, 4, 5, 6, 8, 9, 10, 12, 18, 24} {
		polynomial := polynomialFunctions(m)
		n, e := shuffle.Count(m)
		wantNumber(t, "Count", m, "", n, e, len(polynomial), api.OK)
		forms := map[string]bool{}
		for _, function := range polynomial {
			wantForm(t, m, function, true)
			form, _ := shuffle.Form(m, function)
			forms[key(form)] = true
			at := r.IntN(m)
			function[at] = r.IntN(m)
			wantForm(t, m, function, polynomial[key(function)] != nil)
		}
		if len(forms) != len(polynomial) {
			t.Errorf("%d: %d forms of %d functions", m, len(forms), len(polynomial))
		}
	}
}

// P6.1: Form and Unform, for all moduli and forms of all lengths, the greatest numbers among them.
func TestFormsOfAllModuli(t *testing.T) {
	r := rand.New(rand.NewPCG(6, 2))
	for m := range moduli {
		var greatest []int
		for n := range degreeOf(m) + 1 {
			for _, form := range [][]int{slices.Clone(greatest), randomForm(r, m, n)} {
				function, e := shuffle.Unform(m, form)
				wantList(t, "Unform", m, form, function, e, functionOfForm(m, form), api.OK)
				l, e := shuffle.Form(m, function)
				wantList(t, "Form", m, function, l, e, form, api.OK)
			}
			greatest = append(greatest, limit(m, n)-1)
		}
	}
}

// P6.1: if m is not a prime, no polynomial function has one value greater by 1 than another polynomial function, and
// all others equal to its own: points with a divisor of m between them have values with the divisor between them.
func TestFormOfAlmostPolynomial(t *testing.T) {
	for m := range moduli {
		for i, polynomial := range polynomials(m) {
			function := functionOf(m, polynomial)
			at := 17 * i % m
			function[at] = (function[at] + 1) % m
			form, e := shuffle.Form(m, function)
			if big.NewInt(int64(m)).ProbablyPrime(10) {
				if e != api.OK || !isForm(m, form) || !slices.Equal(functionOfForm(m, form), function) {
					t.Fatalf("Form(%d, %v) = %v, %d", m, function, form, e)
				}
				continue
			}
			wantList(t, "Form", m, function, form, e, nil, api.ErrNone)
		}
	}
}

// P6.1: Unform, for all short lists: those that are no forms lead to ErrArg.
func TestUnformOfAllLists(t *testing.T) {
	for _, m := range []int{2, 3, 4, 6, 8} {
		for n := range 5 {
			for list := range lists(n, -1, m) {
				wantUnform(t, m, list)
			}
		}
	}
}

// wantUnform checks Unform for any list.
func wantUnform(t *testing.T, m int, list []int) {
	t.Helper()
	l, e := shuffle.Unform(m, list)
	if isForm(m, list) {
		wantList(t, "Unform", m, list, l, e, functionOfForm(m, list), api.OK)
		return
	}
	wantList(t, "Unform", m, list, l, e, nil, api.ErrArg)
}

// P6.1: Unform of lists with a number that is too great or negative, with a last 0, or too long, for all moduli.
func TestNoForms(t *testing.T) {
	r := rand.New(rand.NewPCG(6, 3))
	for m := range moduli {
		degree := degreeOf(m)
		for i := range degree {
			form := append(randomForm(r, m, degree-1), 1)
			for len(form) < degree {
				form = slices.Insert(form, 0, 0)
			}
			for _, number := range []int{limit(m, i) - 1, limit(m, i), limit(m, i) + 1, m, m + 1, -1, -m, math.MinInt, math.MaxInt} {
				list := slices.Clone(form)
				list[i] = number
				wantUnform(t, m, list)
			}
		}
		full := slices.Repeat([]int{1}, degree)
		for _, list := range [][]int{full, append(slices.Clone(full), 0), append(slices.Clone(full), 1), {0}, {1, 0}, make([]int, degree), make([]int, m), make([]int, 1<<20), slices.Repeat([]int{1}, 1000)} {
			wantUnform(t, m, list)
		}
	}
}

// P6.1: Degree, for all moduli; some of them by hand.
func TestDegree(t *testing.T) {
	for m := range moduli {
		n, e := shuffle.Degree(m)
		wantNumber(t, "Degree", m, "", n, e, degreeOf(m), api.OK)
	}
	for m, want := range map[int]int{2: 2, 3: 3, 4: 4, 5: 5, 6: 3, 8: 4, 9: 6, 12: 4, 16: 6, 24: 4, 25: 10, 27: 9, 32: 8, 36: 6, 49: 14, 60: 5, 61: 61, 62: 31, 63: 7, 64: 8} {
		n, e := shuffle.Degree(m)
		wantNumber(t, "Degree", m, "", n, e, want, api.OK)
	}
}

// P6.1 and P6.5: Count is a product, for all moduli, and ErrFull if this is greater than 2^60.
func TestCount(t *testing.T) {
	most := new(big.Int).Lsh(big.NewInt(1), 60)
	var full []int
	for m := range moduli {
		product := big.NewInt(1)
		for i := range degreeOf(m) {
			product.Mul(product, big.NewInt(int64(limit(m, i))))
		}
		n, e := shuffle.Count(m)
		if product.Cmp(most) > 0 {
			wantNumber(t, "Count", m, "", n, e, 0, api.ErrFull)
			full = append(full, m)
			continue
		}
		wantNumber(t, "Count", m, "", n, e, int(product.Int64()), api.OK)
	}
	for m, want := range map[int]int{2: 4, 3: 27, 4: 64, 6: 108, 13: 302875106592253, 49: 558545864083284007, 64: 1 << 32} {
		n, e := shuffle.Count(m)
		wantNumber(t, "Count", m, "", n, e, want, api.OK)
	}
	if want := []int{17, 19, 23, 29, 31, 34, 37, 38, 41, 43, 46, 47, 51, 53, 57, 58, 59, 61, 62}; !slices.Equal(full, want) {
		t.Errorf("the counts for %v are full, want those for %v", full, want)
	}
}

// The examples of the chapter.
func TestExamplesOfForms(t *testing.T) {
	l, e := shuffle.Form(4, []int{0, 0, 1, 0})
	wantList(t, "Form", 4, "0 0 1 0", l, e, nil, api.ErrNone)
	l, e = shuffle.Form(4, []int{0, 0, 2, 2})
	wantList(t, "Form", 4, "0 0 2 2", l, e, []int{0, 0, 1}, api.OK)
	l, e = shuffle.Form(4, []int{0, 0, 0, 0})
	wantList(t, "Form", 4, "0 0 0 0", l, e, nil, api.OK)
	l, e = shuffle.Values(4, []int{0, 1, 2})
	wantList(t, "Values", 4, "0 1 2", l, e, []int{0, 3, 2, 1}, api.OK)
}

// P6.5: the functions of polynomials are polynomial, and so is the one that arises from two of them, and the inverse.
func TestFunctionsOfPolynomialsArePolynomial(t *testing.T) {
	for m := range moduli {
		var before []int
		for i, polynomial := range polynomials(m) {
			function, _ := shuffle.Values(m, polynomial)
			wantForm(t, m, function, true)
			if i > 0 {
				both, e := shuffle.After(m, before, function)
				if e != api.OK {
					t.Fatalf("After(%d, %v, %v): %d", m, before, function, e)
				}
				wantForm(t, m, both, true)
			}
			if inverse, e := shuffle.Inverse(m, function); e == api.OK {
				wantForm(t, m, inverse, true)
			}
			before = function
		}
	}
}

// P6.5: a polynomial function is that of a polynomial with at most Degree coefficients: its form, multiplied out.
func TestPolynomialsOfForms(t *testing.T) {
	r := rand.New(rand.NewPCG(6, 5))
	count := 0
	for m := range moduli {
		degree, _ := shuffle.Degree(m)
		if degree > api.MaxTerms {
			continue
		}
		for range 20 {
			form := randomForm(r, m, degree)
			polynomial := multipliedOut(m, form)
			function, _ := shuffle.Unform(m, form)
			l, e := shuffle.Values(m, polynomial)
			wantList(t, "Values", m, polynomial, l, e, function, api.OK)
			count++
		}
	}
	if count < 700 {
		t.Errorf("%d polynomials only", count)
	}
}

// multipliedOut returns the coefficients of the polynomial c0 + x (c1 + (x - 1) (c2 + ...)).
func multipliedOut(m int, form []int) []int {
	var polynomial []int
	for i, number := range slices.Backward(form) {
		next := append([]int{number}, polynomial...)
		for k, coefficient := range polynomial {
			next[k] = (next[k] + (m-i%m)*coefficient) % m
		}
		polynomial = next
	}
	return polynomial
}
