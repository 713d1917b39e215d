package shop

import (
	"galloon/api"
	"galloon/haggle"
)

// deal is a tree.
type deal []api.Move

func (a *act) deal() ware {
	var tree deal
	for _, node := range a.lists {
		demand(len(node) > 0, api.ErrArg)
		tree = append(tree, api.Move{Worth: node[0], Children: node[1:]})
	}
	return tree
}

func (d deal) kind() string { return "deal" }

func (d deal) isValid() bool {
	_, errno := haggle.Value(d)
	return errno == api.OK
}

func (d deal) arguments() []string {
	var nodes [][]int
	for _, move := range d {
		nodes = append(nodes, append([]int{move.Worth}, move.Children...))
	}
	return []string{lists(nodes)}
}

func (d deal) questions() map[string]question {
	return map[string]question{"value": d.value, "line": d.line, "visits": d.visits, "proof": d.proof}
}

func (d deal) turnings() map[string]turning {
	return map[string]turning{"turned": d.turned}
}

func (d deal) value(given) []string {
	return []string{number(sure(haggle.Value(d)))}
}

func (d deal) line(given) []string {
	return []string{list(sure(haggle.Line(d)))}
}

func (d deal) visits(given) []string {
	_, leaves, errno := haggle.Search(d)
	demand(errno == api.OK, errno)
	return []string{number(len(leaves))}
}

func (d deal) proof(g given) []string {
	return []string{number(len(sure(haggle.Proof(d, g.numbers[0]))))}
}

func (d deal) turned(given) ware {
	return deal(sure(haggle.Turned(d)))
}
