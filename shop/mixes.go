package shop

import (
	"galloon/api"
	"galloon/shuffle"
)

// mix is a modulus, and a polynomial for it.
type mix struct {
	modulus    int
	polynomial []int
}

func (a *act) mix() ware { return mix{modulus: a.numbers[0], polynomial: a.list} }

func (m mix) kind() string { return "mix" }

func (m mix) isValid() bool {
	_, errno := shuffle.Values(m.modulus, m.polynomial)
	return errno == api.OK
}

func (m mix) arguments() []string { return []string{number(m.modulus), list(m.polynomial)} }

func (m mix) questions() map[string]question {
	return map[string]question{"values": m.values, "permutes": m.permutes}
}

func (m mix) turnings() map[string]turning { return nil }

func (m mix) values(given) []string {
	return []string{list(sure(shuffle.Values(m.modulus, m.polynomial)))}
}

func (m mix) permutes(given) []string {
	x, _, errno := shuffle.Permutes(m.modulus, m.polynomial)
	demand(errno == api.OK, errno)
	if x < 0 {
		return []string{number(1)}
	}
	return []string{number(0)}
}
