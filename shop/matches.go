package shop

import (
	"galloon/api"
	"galloon/buttons"
)

// match is costs.
type match [][]int

func (a *act) match() ware { return match(a.lists) }

func (m match) kind() string { return "match" }

func (m match) isValid() bool {
	_, errno := buttons.Greedy(m)
	return errno == api.OK
}

func (m match) arguments() []string { return []string{lists(m)} }

func (m match) questions() map[string]question {
	return map[string]question{"best": m.best, "ranked": m.ranked, "narrow": m.narrow}
}

func (m match) turnings() map[string]turning { return nil }

func (m match) best(given) []string {
	assignment, _, _, errno := buttons.Best(m)
	demand(errno == api.OK, errno)
	return []string{list(assignment), number(sure(buttons.Total(m, assignment)))}
}

func (m match) ranked(g given) []string {
	return []string{list(sure(buttons.Item(m, g.numbers[0])))}
}

func (m match) narrow(given) []string {
	_, width, _, errno := buttons.Narrow(m)
	demand(errno == api.OK, errno)
	return []string{number(width)}
}
