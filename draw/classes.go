package draw

import "galloon/api"

// Final returns all final classes, each in ascending order, in ascending order of their smallest states.
func Final(box api.Box) ([][]int, api.Errno) {
	l, ok := newLots(box)
	if !ok {
		return nil, api.ErrArg
	}
	var lists [][]int
	for _, class := range l.finalClasses() {
		lists = append(lists, class.list())
	}
	return lists, api.OK
}

// Returns gives for each state the greatest common divisor of the numbers, at least 1, of draws that send it to itself,
// and 0 if there are none.
func Returns(box api.Box) ([]int, api.Errno) {
	l, ok := newLots(box)
	if !ok {
		return nil, api.ErrArg
	}
	w := l.ways()
	var list []int
	for state := range l.states {
		common := 0
		reached := single(state)
		for number := 1; number <= api.MaxDraws; number++ {
			reached = w.step(reached)
			if reached.has(state) {
				common = divisor(common, number)
			}
		}
		list = append(list, common)
	}
	return list, api.OK
}

// ways contains, for each state, the states to which one step may send it.
type ways []set

func (l lots) ways() ways {
	var w ways
	for state := range l.states {
		var next set
		for to, share := range l.shares(single(state), 1) {
			// In lowest terms, there is only one fraction that is 0.
			if share != (api.Frac{Num: 0, Den: 1}) {
				next |= single(to)
			}
		}
		w = append(w, next)
	}
	return w
}

// step returns all states to which one step may send a state of the set.
func (w ways) step(from set) set {
	var next set
	for _, state := range from.list() {
		next |= w[state]
	}
	return next
}

// led returns all states to which a state leads.
func (w ways) led(state int) set {
	led := single(state)
	// What is not reached in fewer steps than there are states is not reached at all.
	for range w {
		led |= w.step(led)
	}
	return led
}

// finalClasses returns the final classes in ascending order of their smallest states.
func (l lots) finalClasses() []set {
	w := l.ways()
	var classes []set
	for state := range l.states {
		if class := w.led(state); w.isFinal(class) && class.list()[0] == state {
			classes = append(classes, class)
		}
	}
	return classes
}

// isFinal reports whether what a state leads to is a final class: each state of it leads to all of it.
func (w ways) isFinal(class set) bool {
	for _, state := range class.list() {
		if w.led(state) != class {
			return false
		}
	}
	return true
}
