package shop_test

import (
	"fmt"
	"math/big"
	"regexp"
	"slices"
	"strings"

	"galloon/api"
	"galloon/buttons"
	"galloon/draw"
	"galloon/haggle"
	"galloon/hem"
	"galloon/remnant"
	"galloon/shuffle"
	"galloon/tower"
	"galloon/trim"
	"galloon/yard"
)

// forms are all acts, as the chapter writes them: those that make, those that ask a kind of ware, those that turn one.
var forms = map[string][]string{
	"":      {"braid NAME TEXT", "match NAME LISTS", "cut NAME NUM DEN", "deal NAME LISTS", "count NAME TEXT", "snake NAME TEXT", "mix NAME M LIST", "lot NAME LIST LISTS", "seam NAME DEGREE LIST LISTS", "rest NAME ROOM LIST", "drop NAME"},
	"braid": {"palindromes NAME", "rich NAME", "fewest NAME", "inner NAME", "closure NAME NEW", "tower NAME NEW"},
	"match": {"best NAME", "ranked NAME K", "narrow NAME"},
	"cut":   {"below NAME N", "beside NAME N", "path NAME", "saw NAME", "between NAME OTHER NEW"},
	"deal":  {"value NAME", "line NAME", "visits NAME", "proof NAME B", "turned NAME NEW"},
	"count": {"order NAME OTHER", "descent NAME N", "sum NAME OTHER NEW", "product NAME OTHER NEW", "blend NAME OTHER NEW", "step NAME N NEW"},
	"snake": {"heads NAME", "measure NAME", "chop NAME HEAD N NEW"},
	"mix":   {"values NAME", "permutes NAME"},
	"lot":   {"balance NAME", "rank NAME", "chance NAME STEPS"},
	"seam":  {"at NAME NUM DEN", "area NAME", "insert NAME KNOT NEW", "slope NAME NEW"},
	"rest":  {"boxes NAME", "weight NAME", "full NAME"},
}

// kinds are the kinds of wares.
var kinds = []string{"braid", "match", "cut", "deal", "count", "snake", "mix", "lot", "seam", "rest"}

// patterns are what stands for each argument; every other one is a number.
var patterns = map[string]string{
	"NAME": `[a-z]{1,16}`, "OTHER": `[a-z]{1,16}`, "NEW": `[a-z]{1,16}`, "TEXT": `[^ \n]+`,
	"LIST":  `-|N(?:,N)*`,
	"LISTS": `-|(?:-|N(?:,N)*)(?:;(?:-|N(?:,N)*))*`,
	"N":     `N`,
}

// form is an act: its word, its arguments, the kind of ware it needs, and what its lines look like.
type form struct {
	word, kind string
	places     []string
	lines      *regexp.Regexp
}

// allForms returns the forms, by their words.
func allForms() map[string]form {
	all := map[string]form{}
	for kind, list := range forms {
		for _, text := range list {
			words := strings.Split(text, " ")
			pattern := "^" + words[0]
			for _, place := range words[1:] {
				p, ok := patterns[place]
				if !ok {
					p = patterns["N"]
				}
				pattern += " (" + strings.ReplaceAll(p, "N", "(?:0|-?[1-9][0-9]*)") + ")"
			}
			all[words[0]] = form{words[0], kind, words[1:], regexp.MustCompile(pattern + "$")}
		}
	}
	return all
}

// goods are a ware: its kind, the arguments that make it, and what they mean.
type goods struct {
	kind, tail string
	costs      [][]int
	tree       []api.Move
	frac       api.Frac
	box        api.Box
	seam       api.Seam
	number     int
	list       []int
}

// clerk is what a shop should be: it does what the chapter says, with regular expressions and tables.
type clerk struct {
	forms map[string]form
	names []string
	goods map[string]goods
	log   []string
}

func newClerk() *clerk {
	return &clerk{forms: allForms(), goods: map[string]goods{}}
}

// do performs an act.
func (c *clerk) do(line string) (string, api.Errno) {
	result, errno := c.try(line)
	if errno != api.OK {
		return "", errno
	}
	c.log = append(c.log, result)
	c.log = c.log[max(0, len(c.log)-100):]
	return result, api.OK
}

func (c *clerk) say(line string) string {
	result, errno := c.do(line)
	if errno != api.OK {
		return fmt.Sprintf("error %d\n", errno)
	}
	return result + "\n"
}

func (c *clerk) text() string {
	text := ""
	for _, name := range c.names {
		text += c.goods[name].kind + " " + name + " " + c.goods[name].tail + "\n"
	}
	return text
}

// arguments returns the form of a line, and its arguments by their places.
func (c *clerk) arguments(line string) (form, map[string]string, bool) {
	f, ok := c.forms[strings.Split(line, " ")[0]]
	if !ok || len(line) > 4096 {
		return form{}, nil, false
	}
	found := f.lines.FindStringSubmatch(line)
	if found == nil {
		return form{}, nil, false
	}
	all := map[string]string{}
	for i, place := range f.places {
		all[place] = found[i+1]
		if place == "NAME" || place == "OTHER" || place == "NEW" || place == "TEXT" {
			continue
		}
		for _, text := range strings.FieldsFunc(found[i+1], func(r rune) bool { return r == ',' || r == ';' }) {
			if n, ok := new(big.Int).SetString(text, 10); ok && !n.IsInt64() {
				return form{}, nil, false
			}
		}
	}
	return f, all, true
}

// try returns the result of an act, or the first one of its errors.
func (c *clerk) try(line string) (string, api.Errno) {
	f, all, ok := c.arguments(line)
	if !ok {
		return "", api.ErrSyntax
	}
	name := all["NAME"]
	_, there := c.goods[name]
	if f.kind == "" && f.word != "drop" {
		tail := line[len(f.word)+1+len(name)+1:]
		g, ok := made(f.word, tail)
		if there || !ok {
			return "", api.ErrArg
		}
		return c.keep(name, g)
	}
	_, otherThere := c.goods[all["OTHER"]]
	if !there || all["OTHER"] != "" && !otherThere {
		return "", api.ErrNone
	}
	if f.word == "drop" {
		delete(c.goods, name)
		c.names = slices.DeleteFunc(c.names, func(s string) bool { return s == name })
		return "dropped " + name, api.OK
	}
	g, other := c.goods[name], c.goods[all["OTHER"]]
	if g.kind != f.kind || otherThere && other.kind != f.kind {
		return "", api.ErrArg
	}
	var n []int
	for _, place := range f.places {
		if _, ok := patterns[place]; !ok || place == "N" {
			n = append(n, numbersOf(all[place])[0])
		}
	}
	if answer, ok := answers[f.word]; ok {
		text, errno := answer(g, n)
		if f.word == "order" {
			var sign int
			sign, errno = tower.Compare(g.tail, other.tail)
			text = fmt.Sprint(sign)
		}
		return f.word + " " + text, errno
	}
	if _, ok := c.goods[all["NEW"]]; ok {
		return "", api.ErrArg
	}
	if len(c.goods) >= 32 {
		return "", api.ErrFull
	}
	tail, errno := turned(f.word, g, other, n)
	if errno != api.OK {
		return "", errno
	}
	g, ok = made(f.kind, tail)
	if !ok {
		return "", api.ErrArg
	}
	return c.keep(all["NEW"], g)
}

// keep adds a ware, if there is room for it.
func (c *clerk) keep(name string, g goods) (string, api.Errno) {
	if len(c.goods) >= 32 {
		return "", api.ErrFull
	}
	c.names = append(c.names, name)
	c.goods[name] = g
	return "made " + name, api.OK
}

// made returns the ware of a kind with these arguments, and whether it is one.
func made(kind, tail string) (goods, bool) {
	g := goods{kind: kind, tail: tail}
	words := strings.Split(tail, " ")
	errno, shaped := api.OK, true
	switch kind {
	case "braid":
		_, errno = trim.Centers(tail)
	case "match":
		g.costs = listsOf(words[0])
		_, errno = buttons.Slack(g.costs)
	case "cut":
		g.frac = api.Frac{Num: numbersOf(words[0])[0], Den: numbersOf(words[1])[0]}
		_, errno = yard.Nearest(1, g.frac)
	case "deal":
		for _, l := range listsOf(words[0]) {
			if shaped = shaped && len(l) > 0; shaped {
				g.tree = append(g.tree, api.Move{Worth: l[0], Children: l[1:]})
			}
		}
		_, errno = haggle.Values(g.tree)
	case "count":
		_, errno = tower.Compare(tail, tail)
	case "snake":
		_, errno = tower.Chop(tail, 0, 0)
		if errno == api.ErrArg { // It has no head.
			errno = api.OK
		}
	case "mix":
		g.number, g.list = numbersOf(words[0])[0], numbersOf(words[1])
		_, errno = shuffle.Same(g.number, g.list, g.list)
	case "lot":
		g.box = api.Box{Weights: numbersOf(words[0]), Maps: listsOf(words[1])}
		_, errno = draw.Image(g.box, nil)
	case "seam":
		g.seam = api.Seam{Degree: numbersOf(words[0])[0], Knots: numbersOf(words[1])}
		for _, l := range listsOf(words[2]) {
			if shaped = shaped && len(l) == 2; shaped {
				g.seam.Heights = append(g.seam.Heights, api.Frac{Num: l[0], Den: l[1]})
			}
		}
		_, errno = hem.Reverse(g.seam)
	case "rest":
		g.number, g.list = numbersOf(words[0])[0], numbersOf(words[1])
		_, errno = remnant.Falling(g.number, g.list)
	}
	return g, errno == api.OK && shaped
}

// answers tells what is said to questions after their word.
var answers = map[string]func(goods, []int) (string, api.Errno){
	"palindromes": func(g goods, n []int) (string, api.Errno) {
		l, e := trim.Palindromes(g.tail)
		return strings.Join(l, ";"), e
	},
	"rich":   func(g goods, n []int) (string, api.Errno) { return one(trim.Rich(g.tail)) },
	"fewest": func(g goods, n []int) (string, api.Errno) { return length(trim.Fewest(g.tail)) },
	"inner":  func(g goods, n []int) (string, api.Errno) { return one(trim.Inner(g.tail)) },
	"best": func(g goods, n []int) (string, api.Errno) {
		l, u, v, e := buttons.Best(g.costs)
		total := 0
		for i := range u {
			total += u[i] + v[i]
		}
		return written(l) + fmt.Sprint(" ", total), e
	},
	"ranked": func(g goods, n []int) (string, api.Errno) { return some(buttons.Item(g.costs, n[0])) },
	"narrow": func(g goods, n []int) (string, api.Errno) {
		_, w, _, e := buttons.Narrow(g.costs)
		return fmt.Sprint(w), e
	},
	"below": func(g goods, n []int) (string, api.Errno) { return one(yard.Below(n[0], g.frac)) },
	"beside": func(g goods, n []int) (string, api.Errno) {
		f, e := yard.Before(n[0], g.frac)
		h, d := yard.Next(n[0], g.frac)
		return fmt.Sprintf("%d/%d %d/%d", f.Num, f.Den, h.Num, h.Den), max(e, d)
	},
	"path": func(g goods, n []int) (string, api.Errno) {
		s, e := yard.Path(g.frac)
		return orNone(s), e
	},
	"saw": func(g goods, n []int) (string, api.Errno) {
		a, b, e := yard.Saw(g.frac)
		return fmt.Sprint(a, b), e
	},
	"value": func(g goods, n []int) (string, api.Errno) { return one(haggle.Value(g.tree)) },
	"line":  func(g goods, n []int) (string, api.Errno) { return some(haggle.Line(g.tree)) },
	"visits": func(g goods, n []int) (string, api.Errno) {
		_, l, e := haggle.Search(g.tree)
		return fmt.Sprint(len(l)), e
	},
	"proof":   func(g goods, n []int) (string, api.Errno) { return length(haggle.Proof(g.tree, n[0])) },
	"order":   func(g goods, n []int) (string, api.Errno) { return "", api.OK },
	"descent": func(g goods, n []int) (string, api.Errno) { return length(tower.Descent(g.tail, n[0])) },
	"heads":   func(g goods, n []int) (string, api.Errno) { return one(tower.Heads(g.tail)) },
	"measure": func(g goods, n []int) (string, api.Errno) { return one(tower.Measure(g.tail)) },
	"values":  func(g goods, n []int) (string, api.Errno) { return some(shuffle.Values(g.number, g.list)) },
	"permutes": func(g goods, n []int) (string, api.Errno) {
		l, e := shuffle.Values(g.number, g.list)
		slices.Sort(l)
		if len(slices.Compact(l)) == g.number {
			return "1", e
		}
		return "0", e
	},
	"balance": func(g goods, n []int) (string, api.Errno) {
		l, e := draw.Balance(g.box)
		text := ""
		for _, f := range l {
			text += fmt.Sprintf(" %d/%d", f.Num, f.Den)
		}
		return strings.TrimPrefix(text, " "), e
	},
	"rank": func(g goods, n []int) (string, api.Errno) { return one(draw.Rank(g.box)) },
	"chance": func(g goods, n []int) (string, api.Errno) {
		f, e := draw.Chance(g.box, n[0])
		return fmt.Sprintf("%d/%d", f.Num, f.Den), e
	},
	"at": func(g goods, n []int) (string, api.Errno) {
		f, e := hem.Value(g.seam, api.Frac{Num: n[0], Den: n[1]})
		return fmt.Sprintf("%d/%d", f.Num, f.Den), e
	},
	"area": func(g goods, n []int) (string, api.Errno) {
		f, e := hem.Area(g.seam)
		return fmt.Sprintf("%d/%d", f.Num, f.Den), e
	},
	"boxes": func(g goods, n []int) (string, api.Errno) {
		_, k, e := remnant.Best(g.number, g.list)
		return fmt.Sprint(k), e
	},
	"weight": func(g goods, n []int) (string, api.Errno) {
		k, a, e := remnant.Weight(g.number, g.list)
		return fmt.Sprint(k, a), e
	},
	"full": func(g goods, n []int) (string, api.Errno) {
		_, k, e := remnant.Fill(g.number, g.list)
		return fmt.Sprint(k), e
	},
}

// turned returns the arguments that make what a ware is turned into.
func turned(word string, g, other goods, n []int) (string, api.Errno) {
	switch word {
	case "closure":
		return trim.Closure(g.tail)
	case "tower":
		return trim.Tower(g.tail)
	case "between":
		f, e := yard.Between(g.frac, other.frac)
		return fmt.Sprint(f.Num, f.Den), e
	case "turned":
		tree, e := haggle.Turned(g.tree)
		var nodes []string
		for _, m := range tree {
			nodes = append(nodes, written(append([]int{m.Worth}, m.Children...)))
		}
		return strings.Join(nodes, ";"), e
	case "sum":
		return tower.Sum(g.tail, other.tail)
	case "product":
		return tower.Product(g.tail, other.tail)
	case "blend":
		return tower.Blend(g.tail, other.tail)
	case "step":
		return tower.Step(g.tail, n[0])
	case "chop":
		return tower.Chop(g.tail, n[0], n[1])
	case "insert":
		s, e := hem.Insert(g.seam, n[0])
		return writtenSeam(s), e
	}
	s, e := hem.Slope(g.seam)
	return writtenSeam(s), e
}

func one[T any](value T, errno api.Errno) (string, api.Errno) { return fmt.Sprint(value), errno }

func length[T any](list []T, errno api.Errno) (string, api.Errno) {
	return fmt.Sprint(len(list)), errno
}

func some(list []int, errno api.Errno) (string, api.Errno) { return written(list), errno }

func orNone(s string) string {
	if s == "" {
		return "-"
	}
	return s
}

// written returns a list as an act has it.
func written(list []int) string {
	return orNone(strings.ReplaceAll(strings.Trim(fmt.Sprint(list), "[]"), " ", ","))
}

func writtenSeam(s api.Seam) string {
	var heights []string
	for _, f := range s.Heights {
		heights = append(heights, fmt.Sprintf("%d,%d", f.Num, f.Den))
	}
	return fmt.Sprintf("%d %s %s", s.Degree, written(s.Knots), orNone(strings.Join(heights, ";")))
}

func numbersOf(text string) []int {
	var list []int
	for _, s := range strings.Split(text, ",") {
		var n int
		if _, err := fmt.Sscan(s, &n); err == nil {
			list = append(list, n)
		}
	}
	return list
}

func listsOf(text string) [][]int {
	if text == "-" {
		return nil
	}
	var list [][]int
	for _, s := range strings.Split(text, ";") {
		list = append(list, numbersOf(s))
	}
	return list
}
