package tower

import (
	"cmp"
	"slices"
	"strconv"
)

// ordinal is the list of its parts, whose exponents descend strictly. It has none if it is 0.
type ordinal []part

// part is w to the power of its exponent, so many times.
type part struct {
	exponent ordinal
	times    int
}

// finite returns the ordinal of a number.
func finite(n int) ordinal {
	if n == 0 {
		return nil
	}
	return ordinal{{nil, n}}
}

// power returns w to the power of an exponent.
func power(exponent ordinal) ordinal {
	return ordinal{{exponent, 1}}
}

func (a ordinal) size() int {
	size := len(a)
	for _, p := range a {
		size += p.exponent.size()
	}
	return size
}

// greatestTimes returns the greatest number of its parts, and of those of the exponents.
func (a ordinal) greatestTimes() int {
	greatest := 0
	for _, p := range a {
		greatest = max(greatest, p.times, p.exponent.greatestTimes())
	}
	return greatest
}

func (a ordinal) appendTo(text []byte) []byte {
	if len(a) == 0 {
		return append(text, '0')
	}
	for i, p := range a {
		if i > 0 {
			text = append(text, '+')
		}
		text = append(text, "w^("...)
		text = p.exponent.appendTo(text)
		text = append(text, ")*"...)
		text = strconv.AppendInt(text, int64(p.times), 10)
	}
	return text
}

// compare returns -1, 0 or 1 if a is less than, equal to, or greater than b.
func compare(a, b ordinal) int {
	return slices.CompareFunc(a, b, compareParts)
}

func compareParts(p, q part) int {
	return cmp.Or(compare(p.exponent, q.exponent), cmp.Compare(p.times, q.times))
}
