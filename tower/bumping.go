package tower

import (
	"iter"
	"slices"

	"galloon/api"
)

// maxNumber is the greatest number to which bumping may lead.
const maxNumber = 1 << 60

// Bumped writes m in a base, with exponents in this base, and returns the number that arises if each base is replaced
// by the next greater one, and the ordinal that arises if each base is replaced by w.
func Bumped(m, base int) (int, string, api.Errno) {
	type pair struct {
		number int
		text   string
	}
	result, errno := guarded(func() pair {
		demandGood(m)
		demand(base >= 2 && base <= api.MaxTimes, api.ErrArg)
		return pair{bumped(m, base, maxNumber), written(inBase(m, base))}
	})
	return result.number, result.text, errno
}

// Goodstein returns m and the numbers that follow it, each one bumped and made less by 1, and their ordinals.
func Goodstein(m, steps int) ([]int, []string, api.Errno) {
	type lists struct {
		numbers []int
		texts   []string
	}
	result, errno := guarded(func() lists {
		demandGood(m)
		demand(steps >= 0 && steps <= api.MaxSteps, api.ErrArg)
		var l lists
		for base, number := range goodstein(m) {
			l.numbers = append(l.numbers, number)
			l.texts = append(l.texts, written(inBase(number, base)))
			if len(l.numbers) == steps+1 {
				break
			}
		}
		return l
	})
	return result.numbers, result.texts, errno
}

// demandGood panics with ErrArg unless m is from 0 to MaxGood.
func demandGood(m int) {
	demand(m >= 0 && m <= api.MaxGood, api.ErrArg)
}

// goodstein visits m and the numbers that follow it, down to 0, each with its base.
func goodstein(m int) iter.Seq2[int, int] {
	return func(yield func(int, int) bool) {
		number := m
		for base := 2; yield(base, number) && number > 0; base++ {
			// The limit is one of the numbers that follow, not of those that are bumped.
			number = bumped(number, base, maxNumber+1) - 1
		}
	}
}

// bumped returns the bumped m. It panics with ErrFull if this is greater than most.
func bumped(m, base, most int) int {
	return inBase(m, base).at(base+1, most)
}

// inBase returns the ordinal that arises if m is written in a base, and each base is replaced by w.
func inBase(m, base int) ordinal {
	var a ordinal
	for exponent := 0; m > 0; exponent++ {
		if digit := m % base; digit > 0 {
			a = append(a, part{inBase(exponent, base), digit})
		}
		m /= base
	}
	slices.Reverse(a)
	return a
}

// at returns the number that arises if each w is replaced by a base. It panics with ErrFull if this is greater than most.
func (a ordinal) at(base, most int) int {
	total := 0
	for _, p := range a {
		term := p.times
		// No exponent is too great to be counted: the first powers that are too great end the count.
		for range p.exponent.at(base, most) {
			demand(term <= most/base, api.ErrFull)
			term *= base
		}
		demand(term <= most-total, api.ErrFull)
		total += term
	}
	return total
}
