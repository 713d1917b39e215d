package shop

import (
	"slices"

	"galloon/api"
)

// books keep the wares of a shop, and its last results.
type books struct {
	wares map[string]ware
	names []string // in the order in which the wares were made
	log   []string
}

func (b *books) has(name string) bool {
	_, ok := b.wares[name]
	return ok
}

// find returns a ware. It panics with ErrNone if there is none of this name.
func (b *books) find(name string) ware {
	demand(b.has(name), api.ErrNone)
	return b.wares[name]
}

// demandNew panics with ErrArg if there is a ware of this name already.
func (b *books) demandNew(name string) {
	demand(!b.has(name), api.ErrArg)
}

// demandRoom panics with ErrFull if there is no room for a further ware.
func (b *books) demandRoom() {
	demand(len(b.wares) < api.MaxWares, api.ErrFull)
}

func (b *books) add(name string, w ware) {
	b.wares[name] = w
	b.names = append(b.names, name)
}

func (b *books) remove(name string) {
	delete(b.wares, name)
	b.names = slices.DeleteFunc(b.names, func(other string) bool { return other == name })
}

// line returns the line that makes the ware.
func (b *books) line(name string) string {
	w := b.wares[name]
	return joined(w.kind(), name, joined(w.arguments()...))
}

// note adds a result to the log, from which the oldest one goes if there are too many.
func (b *books) note(result string) {
	b.log = append(b.log, result)
	if len(b.log) > api.MaxLog {
		b.log = slices.Delete(b.log, 0, 1)
	}
}
