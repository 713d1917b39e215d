package shop

import (
	"galloon/api"
	"galloon/hem"
)

// seam is a seam.
type seam struct {
	api.Seam
}

func (a *act) seam() ware {
	s := seam{api.Seam{Degree: a.numbers[0], Knots: a.list}}
	for _, height := range a.lists {
		demand(len(height) == 2, api.ErrArg)
		s.Heights = append(s.Heights, api.Frac{Num: height[0], Den: height[1]})
	}
	return s
}

func (s seam) kind() string { return "seam" }

func (s seam) isValid() bool {
	_, errno := hem.Area(s.Seam)
	return errno == api.OK
}

func (s seam) arguments() []string {
	var heights [][]int
	for _, height := range s.Heights {
		heights = append(heights, []int{height.Num, height.Den})
	}
	return []string{number(s.Degree), list(s.Knots), lists(heights)}
}

func (s seam) questions() map[string]question {
	return map[string]question{"at": s.at, "area": s.area}
}

func (s seam) turnings() map[string]turning {
	return map[string]turning{"insert": s.insert, "slope": s.slope}
}

func (s seam) at(g given) []string {
	time := api.Frac{Num: g.numbers[0], Den: g.numbers[1]}
	return []string{fraction(sure(hem.Value(s.Seam, time)))}
}

func (s seam) area(given) []string {
	return []string{fraction(sure(hem.Area(s.Seam)))}
}

func (s seam) insert(g given) ware {
	return seam{sure(hem.Insert(s.Seam, g.numbers[0]))}
}

func (s seam) slope(given) ware {
	return seam{sure(hem.Slope(s.Seam))}
}
