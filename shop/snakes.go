package shop

import (
	"galloon/api"
	"galloon/tower"
)

// snake is a hydra.
type snake string

func (a *act) snake() ware { return snake(a.text) }

func (s snake) kind() string { return "snake" }

func (s snake) isValid() bool {
	_, errno := tower.Heads(string(s))
	return errno == api.OK
}

func (s snake) arguments() []string { return []string{string(s)} }

func (s snake) questions() map[string]question {
	return map[string]question{"heads": s.heads, "measure": s.measure}
}

func (s snake) turnings() map[string]turning {
	return map[string]turning{"chop": s.chop}
}

func (s snake) heads(given) []string {
	return []string{number(sure(tower.Heads(string(s))))}
}

func (s snake) measure(given) []string {
	return []string{text(sure(tower.Measure(string(s))))}
}

func (s snake) chop(g given) ware {
	return snake(sure(tower.Chop(string(s), g.numbers[0], g.numbers[1])))
}
