package shop

import "galloon/api"

// makings returns how the act makes a ware of each kind.
func (a *act) makings() map[string]func() ware {
	return map[string]func() ware{
		"braid": a.braid,
		"match": a.match,
		"cut":   a.cut,
		"deal":  a.deal,
		"count": a.count,
		"snake": a.snake,
		"mix":   a.mix,
		"lot":   a.lot,
		"seam":  a.seam,
		"rest":  a.rest,
	}
}

// perform performs an act, and returns its result. It panics with an error before anything has changed.
func (s *Shop) perform(a *act) string {
	if making, ok := a.makings()[a.word]; ok {
		return s.produce(a, making)
	}
	w := s.find(a.name)
	if a.word == "drop" {
		s.remove(a.name)
		return joined("dropped", a.name)
	}
	g := given{numbers: a.numbers}
	if a.other != "" {
		g.other = s.find(a.other)
		demand(g.other.kind() == w.kind(), api.ErrArg)
	}
	if answer, ok := w.questions()[a.word]; ok {
		return joined(a.word, joined(answer(g)...))
	}
	turn, ok := w.turnings()[a.word]
	demand(ok, api.ErrArg)
	return s.turn(a, g, turn)
}

// produce adds the ware that the act describes.
func (s *Shop) produce(a *act, making func() ware) string {
	s.demandNew(a.name)
	w := making()
	demand(w.isValid(), api.ErrArg)
	s.demandRoom()
	s.add(a.name, w)
	return joined("made", a.name)
}

// turn adds the ware into which the act turns another one.
func (s *Shop) turn(a *act, g given, turn turning) string {
	s.demandNew(a.new)
	s.demandRoom()
	w := turn(g)
	demand(w.isValid(), api.ErrArg)
	s.add(a.new, w)
	return joined("made", a.new)
}
