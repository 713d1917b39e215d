package shop

import (
	"galloon/api"
	"galloon/trim"
)

// braid is a word.
type braid string

func (a *act) braid() ware { return braid(a.text) }

func (b braid) kind() string { return "braid" }

func (b braid) isValid() bool {
	_, _, errno := trim.Longest(string(b))
	return errno == api.OK
}

func (b braid) arguments() []string { return []string{string(b)} }

func (b braid) questions() map[string]question {
	return map[string]question{"palindromes": b.palindromes, "rich": b.rich, "fewest": b.fewest, "inner": b.inner}
}

func (b braid) turnings() map[string]turning {
	return map[string]turning{"closure": b.closure, "tower": b.tower}
}

func (b braid) palindromes(given) []string {
	return []string{texts(sure(trim.Palindromes(string(b))))}
}

func (b braid) rich(given) []string {
	return []string{number(sure(trim.Rich(string(b))))}
}

func (b braid) fewest(given) []string {
	return []string{number(len(sure(trim.Fewest(string(b)))))}
}

func (b braid) inner(given) []string {
	return []string{text(sure(trim.Inner(string(b))))}
}

func (b braid) closure(given) ware {
	return braid(sure(trim.Closure(string(b))))
}

func (b braid) tower(given) ware {
	return braid(sure(trim.Tower(string(b))))
}
