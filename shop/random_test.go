package shop_test

import (
	"testing"

	"galloon/api"
	"galloon/shop"
)

// P10.2 to P10.6 and P6: whatever is done, a shop does what the clerk does.
func TestRandomActs(t *testing.T) {
	results := map[string]map[api.Errno]int{}
	for seed := range uint64(36) {
		c, s := newClerk(), shop.New()
		names := []int{4, 12, 40, 60}[seed%4]
		random := newSource(seed, names)
		for range 500 {
			line := random.line(c)
			f, _, _ := c.arguments(line)
			if random.IntN(12) == 0 {
				line = random.spoilt(line)
			}
			before := state(s)
			want, wantErrno := c.do(line)
			got, errno := s.Do(line)
			if got != want || errno != wantErrno {
				t.Fatalf("%q after\n%s: %q, %d, want %q, %d", line, before, got, errno, want, wantErrno)
			}
			if after := state(s); after != c.state() || errno != api.OK && after != before {
				t.Fatalf("%q leads from\n%s to\n%s, want\n%s", line, before, after, c.state())
			}
			if results[f.word] == nil {
				results[f.word] = map[api.Errno]int{}
			}
			results[f.word][errno]++
		}
	}
	for word, f := range allForms() {
		if results[word][api.OK] < 3 || f.kind != "" && results[word][api.ErrNone] == 0 {
			t.Errorf("%s was hardly tried: %v", word, results[word])
		}
	}
}
