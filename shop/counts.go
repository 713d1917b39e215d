package shop

import (
	"galloon/api"
	"galloon/tower"
)

// count is an ordinal.
type count string

func (a *act) count() ware { return count(a.text) }

func (c count) kind() string { return "count" }

func (c count) isValid() bool {
	_, errno := tower.Kind(string(c))
	return errno == api.OK
}

func (c count) arguments() []string { return []string{string(c)} }

func (c count) questions() map[string]question {
	return map[string]question{"order": c.order, "descent": c.descent}
}

func (c count) turnings() map[string]turning {
	return map[string]turning{"sum": c.sum, "product": c.product, "blend": c.blend, "step": c.step}
}

func (c count) order(g given) []string {
	return []string{number(sure(tower.Compare(string(c), g.count())))}
}

func (c count) descent(g given) []string {
	return []string{number(len(sure(tower.Descent(string(c), g.numbers[0]))))}
}

func (c count) sum(g given) ware {
	return count(sure(tower.Sum(string(c), g.count())))
}

func (c count) product(g given) ware {
	return count(sure(tower.Product(string(c), g.count())))
}

func (c count) blend(g given) ware {
	return count(sure(tower.Blend(string(c), g.count())))
}

func (c count) step(g given) ware {
	return count(sure(tower.Step(string(c), g.numbers[0])))
}

// count returns the ordinal of the other ware.
func (g given) count() string {
	return string(g.other.(count))
}
