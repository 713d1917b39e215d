package shop_test

import (
	"fmt"
	"reflect"
	"slices"
	"strings"
	"testing"

	"galloon/api"
	"galloon/shop"
)

// stock makes two wares of each kind that acts turn together, and one of each other kind.
const stock = `braid b abca
match m 1,2;3,5
cut f 1 3
cut g 1 2
deal d 0,1,2;0,3,4;0,5,6;3;5;2;9
count w w^(w^(0)*1)*1
count o w^(0)*1
snake s ((()))
mix y 4 0,1,2
lot l 1,2 0,0;1,1
seam k 2 0,0,0,2,2,2 0,1;1,1;0,1
rest v 10 6,5,4,5
`

// rightActs are an act of each form, which a shop with the stock performs, and its result.
var rightActs = [][2]string{
	{"braid new abba", "made new"}, {"match new 7", "made new"}, {"cut new 2 3", "made new"}, {"deal new 0,1;5", "made new"}, {"count new 0", "made new"}, {"snake new ()", "made new"},
	{"mix new 2 0,1", "made new"}, {"lot new 1 0", "made new"}, {"seam new 0 0,1 1,2", "made new"}, {"rest new 5 1,2", "made new"},
	{"palindromes b", "palindromes a;b;c"}, {"rich b", "rich 3"}, {"fewest b", "fewest 4"}, {"inner b", "inner aba"}, {"best m", "best 1,0 5"}, {"ranked m 1", "ranked 0,1"}, {"narrow m", "narrow 3"},
	{"below f 5", "below 3"}, {"beside f 5", "beside 1/4 2/5"}, {"path f", "path L"}, {"saw f", "saw 1 18"}, {"value d", "value 3"}, {"line d", "line 0,1,3"}, {"visits d", "visits 3"}, {"proof d 3", "proof 2"},
	{"order o w", "order -1"}, {"descent w 3", "descent 5"}, {"heads s", "heads 1"}, {"measure s", "measure w^(w^(0)*1)*1"}, {"values y", "values 0,3,2,1"}, {"permutes y", "permutes 1"},
	{"balance l", "balance 1/3 2/3"}, {"rank l", "rank 1"}, {"chance l 1", "chance 1/1"}, {"at k 1 1", "at 1/2"}, {"area k", "area 2/3"}, {"boxes v", "boxes 2"}, {"weight v", "weight 2 0"}, {"full v", "full 2"},
	{"closure b new", "made new"}, {"tower b new", "made new"}, {"between f g new", "made new"}, {"turned d new", "made new"}, {"sum w o new", "made new"}, {"product w o new", "made new"},
	{"blend w o new", "made new"}, {"step w 2 new", "made new"}, {"chop s 0 2 new", "made new"}, {"insert k 1 new", "made new"}, {"slope k new", "made new"}, {"drop s", "dropped s"},
}

// stocked returns a shop that was told the lines of a text.
func stocked(t *testing.T, text string) *shop.Shop {
	t.Helper()
	s := shop.New()
	for line := range strings.Lines(text) {
		want(t, s, strings.TrimSuffix(line, "\n"), "made "+strings.Fields(line)[1])
	}
	return s
}

// filled tells a shop acts that make wares, until it is full.
func filled(t *testing.T, s *shop.Shop) *shop.Shop {
	t.Helper()
	for i := len(s.Names()); i < 32; i++ {
		name := "filler" + string(rune('a'+i%26)) + strings.Repeat("z", i/26)
		want(t, s, "rest "+name+" 5 -", "made "+name)
	}
	return s
}

// want checks the result of an act.
func want(t *testing.T, s *shop.Shop, line, result string) {
	t.Helper()
	before := s.Log()
	if got, errno := s.Do(line); got != result || errno != api.OK {
		t.Fatalf("%.200q: %q, %d, want %q", line, got, errno, result)
	}
	before = append(before, result)
	if log := s.Log(); !slices.Equal(log, before[max(0, len(before)-100):]) {
		t.Fatalf("%.200q: the log is %q, want %q at the end", line, log, before)
	}
}

// wantError checks that an act returns an error, and has no effect.
func wantError(t *testing.T, s *shop.Shop, line string, errno api.Errno) {
	t.Helper()
	before := state(s)
	if got, e := s.Do(line); got != "" || e != errno {
		t.Fatalf("%.200q: %q, %d, want the error %d", line, got, e, errno)
	}
	if got := s.Say(line); got != errorOf(errno) {
		t.Fatalf("%.200q: said %q, want the error %d", line, got, errno)
	}
	if after := state(s); after != before {
		t.Fatalf("%.200q with the error %d leads from\n%s to\n%s", line, errno, before, after)
	}
}

// P10.1: a new shop is empty, and stays so while it is only asked.
func TestNew(t *testing.T) {
	s := shop.New()
	for range 2 {
		if len(s.Names()) != 0 || len(s.Log()) != 0 || s.Text() != "" || s.Kind("a") != "" || s.Kind("") != "" {
			t.Fatalf("a new shop: %s", state(s))
		}
	}
}

// P10.1 and rule 3: an unusable shop returns nothing, and ErrUnusable before all other errors.
func TestUnusable(t *testing.T) {
	var none *shop.Shop
	copied := *stocked(t, stock)
	overwritten := shop.New()
	*overwritten = shop.Shop{}
	for name, s := range map[string]*shop.Shop{"nil": none, "zero": {}, "new(Shop)": new(shop.Shop), "a copy": &copied, "an overwritten one": overwritten} {
		for _, line := range []string{"", "words", "braid a a", "braid b a", "braid a e", "drop b", "drop x", "rich b", strings.Repeat("x", 5000), "\n"} {
			if result, errno := s.Do(line); result != "" || errno != api.ErrUnusable {
				t.Errorf("%s, %.20q: %q, %d", name, line, result, errno)
			}
			if said := s.Say(line); said != "" {
				t.Errorf("%s, %.20q: said %q", name, line, said)
			}
			if len(s.Names()) != 0 || len(s.Log()) != 0 || s.Text() != "" || s.Kind("a") != "" || s.Kind("b") != "" || s.Kind("") != "" {
				t.Errorf("%s has %s", name, state(s))
			}
		}
	}
}

// P10.1: the wares stand in the order in which they were made, whatever is dropped and made again.
func TestNames(t *testing.T) {
	s := stocked(t, stock)
	for _, c := range []struct{ line, result, names string }{
		{"rich b", "rich 3", "[b m f g d w o s y l k v]"},
		{"drop g", "dropped g", "[b m f d w o s y l k v]"},
		{"tower b a", "made a", "[b m f d w o s y l k v a]"},
		{"cut g 1 4", "made g", "[b m f d w o s y l k v a g]"},
		{"drop b", "dropped b", "[m f d w o s y l k v a g]"},
		{"drop g", "dropped g", "[m f d w o s y l k v a]"},
		{"between f f z", "", "[m f d w o s y l k v a]"},
		{"snake b ()", "made b", "[m f d w o s y l k v a b]"},
		{"drop w", "dropped w", "[m f d o s y l k v a b]"},
	} {
		if result, _ := s.Do(c.line); result != c.result || fmt.Sprint(s.Names()) != c.names {
			t.Errorf("%s: %q and %v, want %q and %s", c.line, result, s.Names(), c.result, c.names)
		}
	}
	for i := len(s.Names()) - 1; i >= 0; i-- {
		want(t, s, "drop "+s.Names()[i/2], "dropped "+s.Names()[i/2])
	}
	if len(s.Names()) != 0 || s.Text() != "" {
		t.Errorf("all is dropped: %s", state(s))
	}
}

// P10.1: the kinds are the words that make them.
func TestKinds(t *testing.T) {
	s := stocked(t, stock)
	for line := range strings.Lines(stock) {
		words := strings.Fields(line)
		if kind := s.Kind(words[1]); kind != words[0] {
			t.Errorf("%s is a %q, want %q", words[1], kind, words[0])
		}
	}
	for _, name := range []string{"", "a", "B", "bb", "b ", "braid", "b\n", "-", strings.Repeat("b", 17), strings.Repeat("b", 1<<20), "\xff"} {
		if kind := s.Kind(name); kind != "" {
			t.Errorf("%.20q is a %q", name, kind)
		}
	}
	for _, c := range []struct{ line, name, kind string }{
		{"tower b braid", "braid", "braid"}, {"between f g rest", "rest", "cut"}, {"turned d deal", "deal", "deal"}, {"blend o w snake", "snake", "count"}, {"step w 1 a", "a", "count"}, {"chop s 0 1 c", "c", "snake"},
		{"insert k 1 i", "i", "seam"}, {"slope k p", "p", "seam"}, {"closure b e", "e", "braid"}, {"sum o w q", "q", "count"}, {"product o w r", "r", "count"}, {"drop b", "b", ""}, {"rest b 5 -", "b", "rest"}, {"tower b x", "x", ""},
	} {
		s.Do(c.line)
		if kind := s.Kind(c.name); kind != c.kind {
			t.Errorf("after %s: %s is a %q, want %q", c.line, c.name, kind, c.kind)
		}
	}
}

// P10.1: the log has the last 100 results of all acts without an error.
func TestLog(t *testing.T) {
	s := stocked(t, stock)
	log := strings.Split("made b,made m,made f,made g,made d,made w,made o,made s,made y,made l,made k,made v", ",")
	for i := range 250 {
		line, result := fmt.Sprintf("below f %d", i+1), ""
		if i%3 == 0 {
			line = []string{"words", "rich q", "rich m", "braid b a", "below f 0", "cut x 2 4", "tower b m"}[i%7]
		}
		if i%10 == 1 {
			line = fmt.Sprintf("%s q%s", []string{"tower b", "drop"}[i/10%2], []string{"", "", "x"}[i%3])
		}
		result, errno := s.Do(line)
		if errno == api.OK {
			log = append(log, result)
		}
		if want := log[max(0, len(log)-100):]; !slices.Equal(s.Log(), want) {
			t.Fatalf("%q: the log is %q, want %q", line, s.Log(), want)
		}
	}
	if len(log) < 150 {
		t.Errorf("only %d results", len(log))
	}
}

// P2 and rule 5: results are new memory, and shops have nothing in common.
func TestOtherShops(t *testing.T) {
	shops := []*shop.Shop{stocked(t, stock), stocked(t, stock), shop.New()}
	alone := []*shop.Shop{stocked(t, stock), stocked(t, stock), shop.New()}
	for i := range 300 {
		n := i * i % 3
		act := rightActs[i*7%len(rightActs)][0]
		if i%5 == 0 {
			act = "drop new"
		}
		result, errno := shops[n].Do(act)
		other, otherErrno := alone[n].Do(act)
		if result != other || errno != otherErrno {
			t.Fatalf("%s: %q, %d, alone %q, %d", act, result, errno, other, otherErrno)
		}
		for _, s := range shops {
			for _, list := range [][]string{s.Names(), s.Log()} {
				list = list[:cap(list)]
				for j := range list {
					list[j] = "spoilt"
				}
				_ = append(list, "spoilt")
			}
		}
		for j, s := range shops {
			if state(s) != state(alone[j]) {
				t.Fatalf("%s: the shop %d is\n%s, alone\n%s", act, j, state(s), state(alone[j]))
			}
		}
	}
}

// P2: what a shop returns depends on the acts alone, and not on how often it is asked what it has.
func TestRepeatedActs(t *testing.T) {
	lists := [][]string{}
	for range 2 {
		s, random, c := shop.New(), newSource(77, 20), newClerk()
		var results []string
		for range 800 {
			line := random.line(c)
			c.do(line)
			results = append(results, s.Say(line))
			if len(lists) == 0 {
				state(s)
			}
		}
		lists = append(lists, append(results, state(s)))
	}
	if !reflect.DeepEqual(lists[0], lists[1]) {
		t.Errorf("the same acts have other results")
	}
}
