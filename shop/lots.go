package shop

import (
	"galloon/api"
	"galloon/draw"
)

// lot is a box.
type lot struct {
	api.Box
}

func (a *act) lot() ware { return lot{api.Box{Maps: a.lists, Weights: a.list}} }

func (l lot) kind() string { return "lot" }

func (l lot) isValid() bool {
	_, errno := draw.Final(l.Box)
	return errno == api.OK
}

func (l lot) arguments() []string { return []string{list(l.Weights), lists(l.Maps)} }

func (l lot) questions() map[string]question {
	return map[string]question{"balance": l.balance, "rank": l.rank, "chance": l.chance}
}

func (l lot) turnings() map[string]turning { return nil }

func (l lot) balance(given) []string {
	return each(sure(draw.Balance(l.Box)), fraction)
}

func (l lot) rank(given) []string {
	return []string{number(sure(draw.Rank(l.Box)))}
}

func (l lot) chance(g given) []string {
	return []string{fraction(sure(draw.Chance(l.Box, g.numbers[0])))}
}
