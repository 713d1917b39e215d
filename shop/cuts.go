package shop

import (
	"galloon/api"
	"galloon/yard"
)

// cut is a fraction.
type cut struct {
	api.Frac
}

func (a *act) cut() ware { return cut{api.Frac{Num: a.numbers[0], Den: a.numbers[1]}} }

func (c cut) kind() string { return "cut" }

func (c cut) isValid() bool {
	_, errno := yard.Quotients(c.Frac)
	return errno == api.OK
}

func (c cut) arguments() []string { return []string{number(c.Num), number(c.Den)} }

func (c cut) questions() map[string]question {
	return map[string]question{"below": c.below, "beside": c.beside, "path": c.path, "saw": c.saw}
}

func (c cut) turnings() map[string]turning {
	return map[string]turning{"between": c.between}
}

func (c cut) below(g given) []string {
	return []string{number(sure(yard.Below(g.numbers[0], c.Frac)))}
}

func (c cut) beside(g given) []string {
	before := sure(yard.Before(g.numbers[0], c.Frac))
	next := sure(yard.Next(g.numbers[0], c.Frac))
	return []string{fraction(before), fraction(next)}
}

func (c cut) path(given) []string {
	return []string{text(sure(yard.Path(c.Frac)))}
}

func (c cut) saw(given) []string {
	num, den, errno := yard.Saw(c.Frac)
	demand(errno == api.OK, errno)
	return []string{number(num), number(den)}
}

func (c cut) between(g given) ware {
	return cut{sure(yard.Between(c.Frac, g.other.(cut).Frac))}
}
