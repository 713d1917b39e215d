package tower_test

import (
	"math/rand/v2"
	"slices"
	"strconv"
	"strings"

	"galloon/api"
)

// The helpers in this file follow the chapter's definitions literally, and share no code with the package.

const (
	one = "w^(0)*1"
	two = "w^(0)*2"
	w   = "w^(w^(0)*1)*1"
)

// ord is an ordinal: its parts.
type ord []term

type term struct {
	exponent ord
	times    int
}

func (a ord) String() string {
	if len(a) == 0 {
		return "0"
	}
	var parts []string
	for _, p := range a {
		parts = append(parts, "w^("+p.exponent.String()+")*"+strconv.Itoa(p.times))
	}
	return strings.Join(parts, "+")
}

func sizeOf(a ord) int {
	size := 0
	for _, p := range a {
		size += 1 + sizeOf(p.exponent)
	}
	return size
}

// isFull tells whether an ordinal exceeds a limit.
func isFull(a ord) bool {
	return sizeOf(a) > 60 || hasTimes(a, func(times int) bool { return times > 1000 })
}

func hasTimes(a ord, is func(times int) bool) bool {
	return slices.ContainsFunc(a, func(p term) bool { return is(p.times) || hasTimes(p.exponent, is) })
}

func order(a, b ord) int {
	for i := range a {
		if i == len(b) {
			return 1
		}
		if c := order(a[i].exponent, b[i].exponent); c != 0 {
			return c
		}
		if a[i].times != b[i].times {
			if a[i].times < b[i].times {
				return -1
			}
			return 1
		}
	}
	if len(a) < len(b) {
		return -1
	}
	return 0
}

// parse returns the ordinal that a text is, and false if it is none.
func parse(text string) (ord, bool) {
	if len(text) > 5000 {
		return nil, false
	}
	a, ok := parseAny(text)
	return a, ok && !isFull(a)
}

// parseAny is parse without the limits of size.
func parseAny(text string) (ord, bool) {
	if text == "0" {
		return nil, true
	}
	var a ord
	for _, part := range split(text, '+') {
		inner, hasBegin := strings.CutPrefix(part, "w^(")
		at := strings.LastIndex(inner, ")*")
		if !hasBegin || at < 0 {
			return nil, false
		}
		exponent, ok := parseAny(inner[:at])
		times, err := strconv.Atoi(inner[at+2:])
		if !ok || err != nil || strconv.Itoa(times) != inner[at+2:] || times < 1 {
			return nil, false
		}
		if len(a) > 0 && order(a[len(a)-1].exponent, exponent) <= 0 {
			return nil, false
		}
		a = append(a, term{exponent, times})
	}
	return a, true
}

// split cuts a text at each separator that is not in parentheses.
func split(text string, separator byte) []string {
	depth, begin := 0, 0
	var list []string
	for i := range len(text) {
		switch text[i] {
		case '(':
			depth++
		case ')':
			depth--
		case separator:
			if depth == 0 {
				list = append(list, text[begin:i])
				begin = i + 1
			}
		}
	}
	return append(list, text[begin:])
}

// of returns the ordinal that is written in a text.
func of(text string) ord {
	a, ok := parseAny(text)
	if !ok {
		panic("no ordinal: " + text)
	}
	return a
}

// natural returns the ordinal of a number.
func natural(n int) ord {
	if n == 0 {
		return nil
	}
	return ord{{nil, n}}
}

func sumOf(a, b ord) ord {
	if len(b) == 0 {
		return a
	}
	var list ord
	first := b[0]
	for _, p := range a {
		switch order(p.exponent, first.exponent) {
		case 1:
			list = append(list, p)
		case 0:
			first.times += p.times
		}
	}
	return append(append(list, first), b[1:]...)
}

// productOf returns the product, and whether it, a sum on the way, or a sum of exponents exceeds a limit.
func productOf(a, b ord) (ord, bool) {
	if len(a) == 0 || len(b) == 0 {
		return nil, false
	}
	var result ord
	full := false
	for _, p := range b {
		next := slices.Clone(a)
		if len(p.exponent) > 0 {
			next = ord{{sumOf(a[0].exponent, p.exponent), p.times}}
			full = full || isFull(next[0].exponent)
		} else {
			next[0].times = a[0].times * p.times
		}
		result = sumOf(result, next)
		full = full || isFull(result)
	}
	return result, full
}

func blendOf(a, b ord) ord {
	all := slices.Concat(a, b)
	slices.SortFunc(all, func(p, q term) int { return order(q.exponent, p.exponent) })
	var list ord
	for _, p := range all {
		if last := len(list) - 1; last >= 0 && order(list[last].exponent, p.exponent) == 0 {
			list[last].times += p.times
		} else {
			list = append(list, p)
		}
	}
	return list
}

// kindOf returns 0, 1 or 2 for 0, a successor and a limit.
func kindOf(a ord) int {
	switch {
	case len(a) == 0:
		return 0
	case a[len(a)-1].exponent.String() == "0":
		return 1
	}
	return 2
}

// less returns an ordinal without one C of its last part.
func less(a ord) ord {
	last := a[len(a)-1]
	if last.times == 1 {
		return a[:len(a)-1]
	}
	return append(slices.Clone(a[:len(a)-1]), term{last.exponent, last.times - 1})
}

// stepOf returns the step of a limit, or the ordinal before a successor.
func stepOf(a ord, n int) ord {
	if kindOf(a) == 1 {
		return less(a)
	}
	exponent := a[len(a)-1].exponent
	switch {
	case kindOf(exponent) == 2:
		return sumOf(less(a), ord{{stepOf(exponent, n), 1}})
	case n == 0:
		return less(a)
	}
	return sumOf(less(a), ord{{less(exponent), n}})
}

// ordinalsUpTo returns all ordinals up to a size with these numbers C.
func ordinalsUpTo(size int, times ...int) []ord {
	list := []ord{nil}
	if size == 0 {
		return list
	}
	exponents := ordinalsUpTo(size-1, times...)
	slices.SortFunc(exponents, func(a, b ord) int { return order(b, a) })
	for _, exponent := range exponents {
		for _, a := range list {
			for _, c := range times {
				if b := append(slices.Clone(a), term{exponent, c}); sizeOf(b) <= size {
					list = append(list, b)
				}
			}
		}
	}
	return list
}

// nested returns w to the power of w to the power of w and so on, of a size.
func nested(size int) ord {
	var a ord
	for range size {
		a = ord{{a, 1}}
	}
	return a
}

// wide returns the ordinal of a size with the smallest exponents, and each C the same.
func wide(size, times int) ord {
	var a ord
	if size%2 == 1 {
		a = ord{{nil, times}}
	}
	for k := 1; k <= size/2; k++ {
		a = append(ord{{natural(k), times}}, a...)
	}
	return a
}

// randomOrdinal returns an ordinal of at most a size.
func randomOrdinal(r *rand.Rand, size int) ord {
	times := []int{1, 1, 2, 3, 30, 31, 499, 500, 501, 999, 1000}
	var a ord
	for size > 0 && r.IntN(8) > 0 {
		p := ord{{randomOrdinal(r, r.IntN(size)), times[r.IntN(len(times))]}}
		// An equal exponent would unite both.
		if b := blendOf(a, p); len(b) > len(a) {
			a = b
			size -= sizeOf(p)
		}
	}
	return a
}

// randomOrdinals returns ordinals of all sizes up to MaxSize.
func randomOrdinals(count int) []ord {
	r := rand.New(rand.NewPCG(5, 1))
	var list []ord
	for i := range count {
		list = append(list, randomOrdinal(r, i%(api.MaxSize+1)))
	}
	return list
}

// largeOrdinals returns ordinals at the limits, and some that lie beyond most sums with them.
func largeOrdinals() []ord {
	return slices.Concat([]ord{
		natural(999), natural(1000), nested(59), nested(60), nested(30), wide(60, 1), wide(59, 1000), wide(30, 2), wide(31, 500), wide(29, 501),
		{{nested(59), 1000}}, {{nested(58), 1}, {nil, 1000}}, {{wide(59, 1), 1}}, {{natural(1000), 1000}}, {{natural(999), 1}}, {{natural(500), 2}}, {{nested(40), 3}}, {{wide(41, 1), 7}}, {{wide(50, 2), 2}},
	}, randomOrdinals(75))
}

// noOrdinals returns texts that are no ordinals.
func noOrdinals() []string {
	return []string{
		"", " ", "1", "w", "00", "-0", "+", "0+", "+0", "0+0", "0+" + one, one + "+0", one + "+", "+" + one, one + one, one + "++" + one, one + "," + one,
		"w^(0)*0", "w^(0)*01", "w^(0)*001", "w^(0)*00", "w^(0)*", "w^(0)*-1", "w^(0)*+1", "w^(0)*1.0", "w^(0)*1001", "w^(0)*10000", "w^(0)*1x", "w^(0)*a",
		"w^(0)*18446744073709551617", "w^(0)*18446744073709551616", "w^(0)*" + strings.Repeat("9", 100000), "w^(0)*" + strings.Repeat("0", 100000) + "1",
		"w^(0)", "w^0*1", "w(0)*1", "^(0)*1", "w^(0*1", "w^(0)1", "W^(0)*1", "w^()*1", "w^(1)*1", "w^[0]*1", "w^(0))*1", "(w^(0)*1)", "w^(w)*1", "w^(00)*1", "w^((0))*1",
		" " + one, one + " ", "w ^(0)*1", "w^( 0)*1", "w^(0)* 1", one + "\n", "\x00", one + "\x00", "w^(0)*\xb1", "w^(0)*１", "ω^(0)*1",
		one + "+" + one, two + "+" + one, one + "+" + two, one + "+" + w, w + "+" + w, "w^(" + one + "+" + one + ")*1", "w^(" + one + "+" + w + ")*1",
		"w^(" + w + ")*1+w^(" + w + ")*1", "w^(w^(0)*1001)*1", "w^(w^(0)*01)*1", "w^(w^(0)*1)*0", "w^(w^(0)*1)*01", "w^(0+" + one + ")*1",
		nested(61).String(), wide(61, 1).String(), ord{{nested(60), 1}}.String(), ord{{nested(59), 1}, {nil, 1}}.String(), ord{{wide(60, 1), 1}}.String(),
		nested(1000).String(), wide(1000, 1).String(), strings.Repeat("w^(", 1000000), strings.Repeat("w^(", 1000000) + "0" + strings.Repeat(")*1", 1000000),
		strings.Repeat(one+"+", 100000) + one, strings.Repeat("0", 1000000), strings.Repeat("(", 1000000), "()", "(())",
	}
}
