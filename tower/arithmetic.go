package tower

import (
	"slices"

	"galloon/api"
)

// Compare returns -1, 0 or 1 if a is less than, equal to, or greater than b.
func Compare(a, b string) (int, api.Errno) {
	return guarded(func() int { return compare(readOrdinal(a), readOrdinal(b)) })
}

// Sum returns a + b.
func Sum(a, b string) (string, api.Errno) {
	return joined(a, b, sum)
}

// Product returns a b.
func Product(a, b string) (string, api.Errno) {
	return joined(a, b, product)
}

// Blend returns all parts of a and b, those with equal exponents united.
func Blend(a, b string) (string, api.Errno) {
	return joined(a, b, blend)
}

// Rest returns the ordinal x with a + x = b.
func Rest(a, b string) (string, api.Errno) {
	return joined(a, b, rest)
}

// Number returns the ordinal of a number.
func Number(n int) (string, api.Errno) {
	return guarded(func() string {
		demandTimes(n)
		return written(finite(n))
	})
}

// joined returns what join makes of two ordinals.
func joined(a, b string, join func(a, b ordinal) ordinal) (string, api.Errno) {
	return guarded(func() string { return written(join(readOrdinal(a), readOrdinal(b))) })
}

func sum(a, b ordinal) ordinal {
	if len(b) == 0 {
		return a
	}
	first := b[0]
	kept := 0
	for kept < len(a) && compare(a[kept].exponent, first.exponent) > 0 {
		kept++
	}
	if kept < len(a) && compare(a[kept].exponent, first.exponent) == 0 {
		first.times += a[kept].times
	}
	return slices.Concat(a[:kept], ordinal{first}, b[1:])
}

// product returns a b. The sums on the way need no limits of their own: each one is the beginning of the next one,
// and all exponents are in the result.
func product(a, b ordinal) ordinal {
	if len(a) == 0 {
		return nil
	}
	var result ordinal
	for _, p := range b {
		result = sum(result, multiple(a, p))
	}
	return result
}

// multiple returns the product of an ordinal, which is not 0, and a single part.
func multiple(a ordinal, p part) ordinal {
	if len(p.exponent) > 0 {
		return ordinal{{sum(a[0].exponent, p.exponent), p.times}}
	}
	result := slices.Clone(a)
	result[0].times *= p.times
	return result
}

func blend(a, b ordinal) ordinal {
	var result ordinal
	for len(a) > 0 && len(b) > 0 {
		first := a[0]
		order := compare(a[0].exponent, b[0].exponent)
		switch {
		case order < 0:
			first = b[0]
		case order == 0:
			first.times += b[0].times
		}
		if order >= 0 {
			a = a[1:]
		}
		if order <= 0 {
			b = b[1:]
		}
		result = append(result, first)
	}
	return slices.Concat(result, a, b)
}

// rest returns the x with a + x = b. It panics with ErrNone if there is none.
func rest(a, b ordinal) ordinal {
	demand(compare(a, b) <= 0, api.ErrNone)
	same := 0
	for same < len(a) && compareParts(a[same], b[same]) == 0 {
		same++
	}
	// All further parts of a, if there are any, are less than the next one of b, and b has one.
	if same == len(a) || compare(a[same].exponent, b[same].exponent) < 0 {
		return b[same:]
	}
	first := b[same]
	first.times -= a[same].times
	return slices.Concat(ordinal{first}, b[same+1:])
}
