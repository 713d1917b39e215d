package shop

import "galloon/api"

// ware is a thing in the shop.
type ware interface {
	// kind returns the word of its kind.
	kind() string
	// isValid tells whether it is what its layer calls so.
	isValid() bool
	// arguments returns what follows its name in the act that makes it.
	arguments() []string
	// questions returns what it can be asked.
	questions() map[string]question
	// turnings returns how others are made of it.
	turnings() map[string]turning
}

// given is what an act gives to the ware that it names: numbers, and another ware of the same kind.
type given struct {
	numbers []int
	other   ware
}

// question returns the parts of an answer.
type question func(given) []string

// turning returns the ware that is made.
type turning func(given) ware

// demand panics with the error unless the condition holds.
func demand(holds bool, errno api.Errno) {
	if !holds {
		panic(errno)
	}
}

// sure returns the result of a layer. It panics with the error if there is one.
func sure[R any](result R, errno api.Errno) R {
	demand(errno == api.OK, errno)
	return result
}
