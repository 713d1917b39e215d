package shop

import (
	"testing"

	"galloon/api"
)

// faulty is a ware whose layer has faults, which none of the layers has.
type faulty struct {
	braid
}

func (f faulty) questions() map[string]question {
	return map[string]question{"rich": func(given) []string { return []string{""}[len(f.braid):] }, "inner": func(given) []string { panic("a fault") }}
}

func (f faulty) turnings() map[string]turning {
	return map[string]turning{"tower": func(given) ware { return braid("no word") }, "closure": func(given) ware { panic(api.ErrFull) }}
}

// P10.5: what would be made, but is not what its layer calls so, leads to ErrArg. P1: no panic leaves a shop.
func TestFaults(t *testing.T) {
	s := New()
	s.add("x", faulty{"ab"})
	for _, c := range []struct {
		line  string
		errno api.Errno
	}{{"tower x new", api.ErrArg}, {"closure x new", api.ErrFull}, {"rich x", api.ErrArg}, {"inner x", api.ErrArg}, {"fewest x", api.ErrArg}} {
		if result, errno := s.Do(c.line); result != "" || errno != c.errno || len(s.Names()) != 1 || len(s.Log()) != 0 {
			t.Errorf("%s: %q, %d, and then %v and %v", c.line, result, errno, s.Names(), s.Log())
		}
	}
}
