package tower

import (
	"iter"
	"slices"

	"galloon/api"
)

// kind is what an ordinal is.
type kind int

const (
	zero kind = iota
	successor
	limit
)

// Kind returns 0 for 0, 1 for a successor, 2 for a limit.
func Kind(a string) (int, api.Errno) {
	return guarded(func() int { return int(readOrdinal(a).kind()) })
}

// Step returns the step of a limit, or the ordinal before a successor.
func Step(a string, n int) (string, api.Errno) {
	return guarded(func() string {
		from := readOrdinal(a)
		demandTimes(n)
		demand(from.kind() != zero, api.ErrNone)
		return written(from.step(n))
	})
}

// Descent returns the descent of a from n.
func Descent(a string, n int) ([]string, api.Errno) {
	return guarded(func() []string {
		from := readOrdinal(a)
		demandTimes(n)
		var list []string
		for each := range from.descent(n) {
			demand(len(list) < api.MaxDescent, api.ErrFull)
			list = append(list, written(each))
		}
		return list
	})
}

func (a ordinal) kind() kind {
	switch {
	case len(a) == 0:
		return zero
	case len(a[len(a)-1].exponent) == 0:
		return successor
	}
	return limit
}

// step returns the step of a limit for n, or the ordinal before a successor.
func (a ordinal) step(n int) ordinal {
	end := len(a) - 1
	exponent := a[end].exponent
	less := slices.Clone(a)
	less[end].times--
	if less[end].times == 0 {
		less = less[:end]
	}
	switch exponent.kind() {
	case successor:
		if n > 0 {
			less = append(less, part{exponent.step(n), n})
		}
	case limit:
		less = append(less, part{exponent.step(n), 1})
	}
	return less
}

// descent visits the ordinals of the descent of a from n.
func (a ordinal) descent(n int) iter.Seq[ordinal] {
	return func(yield func(ordinal) bool) {
		present := a
		for number := n; yield(present) && present.kind() != zero; number++ {
			present = present.step(number)
		}
	}
}
