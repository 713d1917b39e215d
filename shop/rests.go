package shop

import (
	"galloon/api"
	"galloon/remnant"
)

// rest is a room, and pieces for it.
type rest struct {
	room   int
	pieces []int
}

func (a *act) rest() ware { return rest{room: a.numbers[0], pieces: a.list} }

func (r rest) kind() string { return "rest" }

func (r rest) isValid() bool {
	_, errno := remnant.First(r.room, r.pieces)
	return errno == api.OK
}

func (r rest) arguments() []string { return []string{number(r.room), list(r.pieces)} }

func (r rest) questions() map[string]question {
	return map[string]question{"boxes": r.boxes, "weight": r.weight, "full": r.full}
}

func (r rest) turnings() map[string]turning { return nil }

func (r rest) boxes(given) []string {
	_, boxes, errno := remnant.Best(r.room, r.pieces)
	demand(errno == api.OK, errno)
	return []string{number(boxes)}
}

func (r rest) weight(given) []string {
	weight, a, errno := remnant.Weight(r.room, r.pieces)
	demand(errno == api.OK, errno)
	return []string{number(weight), number(a)}
}

func (r rest) full(given) []string {
	_, boxes, errno := remnant.Fill(r.room, r.pieces)
	demand(errno == api.OK, errno)
	return []string{number(boxes)}
}
