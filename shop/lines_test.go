package shop_test

import (
	"fmt"
	"math/rand/v2"
	"slices"
	"strings"

	"galloon/api"
	"galloon/shop"
)

// examples are wares of all kinds, also such at the limits: the line that makes one, without its name.
var examples = map[string][]string{
	"braid": {"a", "abca", "abba", "abcd", "dcbabcd", "abcdab", "aabab", strings.Repeat("a", 100), strings.Repeat("ab", 50), strings.Repeat("abcd", 25), strings.Repeat("d", 50) + strings.Repeat("c", 49)},
	"match": {"7", "1,2;3,5", "-1000,1000;1000,-1000", "0,0,0;0,0,0;0,0,0", "1,2,3;2,4,6;3,6,9", "4,1,3;2,0,5;3,2,2", strings.TrimSuffix(strings.Repeat("1,2,3,4,5,6,7;", 7), ";"), "0,-5,7,2;1,1,1,1;-3,9,4,0;8,8,-8,6"},
	"cut":   {"0 1", "1 1", "1 2", "1 3", "2 5", "355 452", "1 1000000", "1 999999", "999999 1000000", "1 300", "7 1000", "5 1001", "1 201", "1 202"},
	"deal":  {"7", "-100", "0,1;5", "0,1,2;0,3,4;0,5,6;3;5;2;9", "0,2,1;100;-100", "0,1,2,3;1;0,4;2;0,5;-3", "0" + upTo(1, 59) + strings.Repeat(";1", 59), "0" + upTo(1, 58) + strings.Repeat(";0", 58)},
	"count": {"0", "w^(0)*1", "w^(0)*1000", "w^(w^(0)*1)*1", "w^(w^(0)*1)*1+w^(0)*3", "w^(w^(w^(0)*1)*1)*1", "w^(w^(0)*2)*7+w^(w^(0)*1)*2", "w^(w^(0)*1)*1000", "w^(0)*299", "w^(0)*300"},
	"snake": {"()", "(())", "((()))", "(()(()))", "((())(()()))", "(((())))", "(" + strings.Repeat("()", 199) + ")", strings.Repeat("(", 200) + strings.Repeat(")", 200), strings.Repeat("(", 60) + strings.Repeat(")", 60)},
	"mix":   {"2 -", "2 0", "4 0,1,2", "6 5,5,5", "64 0,1,2,3,4,5,6,7,8,9,10,11", "64 63,63", "7 0,0,0,1", "5 0,0,0,1", "8 0,1,2,0,4,0,2"},
	"lot":   {"1 0", "1,2 0,0;1,1", "1,1 0,0,1;1,2,2", "1 1,0", "9 0,1", "9,9,9,9 0,1,2,3,4,5,6;1,2,3,4,5,6,6;0,0,1,2,3,4,5;6,5,4,3,2,1,0", "1 1,1,3,2", "3,4 1,2,0;0,0,0"},
	"seam":  {"1 0,0,1,2,2 0,1;2,1;1,1", "2 0,0,0,2,2,2 0,1;1,1;0,1", "0 0,20 5,6", "3 0,1,2,3,4,5,6,7 1,2;-3,4;5,6;-1000,1", "1 0,0,1,1,2,2 0,1;2,1;2,1;1,1", "3 0,0,0,0,1,2,3,4,5,6,7,8,9,9,9,9 0,1;1,1;0,1;1,2;0,1;1,1;0,1;1,1;0,1;1,1;5,1;6,1", "1 0,3,4,4,20 1,5;1000,1;-1,6", "0 1,2,4,7 1,2;-1,2;1,6"},
	"rest":  {"5 -", "10 6,5,4,5", "10 4,4,4", "1 1", "100 100", "100 50,51,49,50,25,75,26,74,1,99,2,98", "7 3,3,3,2,2,2,1,1,1", "3 2,2,2,2,2,2,2,2,2,2,2,2"},
}

// wrong are arguments that have the form of those of a kind, but are none.
var wrong = map[string][]string{
	"braid": {"-", "e", "abe", "A", "ab\tb", "a,b", "a;b", "abc\x00", "ä", "\xff", strings.Repeat("a", 101), strings.Repeat("a", 4000)},
	"match": {"-", "-;-", "1,2", "1;2", "1,2;3", "1,2;3,4,5", "-;1", "1;-", "1001", "-1001", "1,2;3,1001", "9223372036854775807", "-9223372036854775808", strings.TrimSuffix(strings.Repeat("1,2,3,4,5,6,7,8;", 8), ";"), "1,2;3,4;5,6"},
	"cut":   {"2 4", "0 2", "0 0", "1 0", "-1 2", "1 -2", "-1 -2", "3 2", "2 1", "1 1000001", "0 -1", "9223372036854775807 9223372036854775807", "-9223372036854775808 1", "1 -9223372036854775808"},
	"deal":  {"-", "-;-", "-;7", "7;-", "0,1;-", "0,1", "0,0", "0,2;1", "5,1;3", "101", "-101", "0,1;101", "0,1,1;3", "0,1,2;0,2;3", "0,1;3;4", "0,-1;3", "0,2;0,1;4", "9223372036854775807", "0,9223372036854775807;1", "0,1;0,0", "0" + upTo(1, 60) + strings.Repeat(";1", 60)},
	"count": {"-", "5", "w", "w^(0)*0", "w^(0)*1001", "w^(0)*01", "w^(0)*-1", "w^(0)*1+", "+w^(0)*1", "w^(0)*1+w^(0)*1", "w^(0)*1+w^(w^(0)*1)*1", "00", "w^()*1", "w^(0)", "W^(0)*1", strings.Repeat("w^(", 60) + "0" + strings.Repeat(")*1", 60) + "+w^(0)*1", strings.Repeat("w^(", 61) + "0" + strings.Repeat(")*1", 61)},
	"snake": {"-", "(", ")", "(()", "())", "()()", ")(", "0", "[]", "(())()", "(-)", "(" + strings.Repeat("()", 200) + ")", strings.Repeat("(", 201) + strings.Repeat(")", 201)},
	"mix":   {"1 -", "0 -", "-2 -", "65 -", "4 4", "4 -1", "4 0,1,4", "64 0,0,0,0,0,0,0,0,0,0,0,0,0", "9223372036854775807 0", "4 9223372036854775807", "1 0", "-9223372036854775808 0"},
	"lot":   {"- -", "1 -", "- 0", "1 -;-", "1 -;0", "0 0", "10 0", "-1 0", "1 1", "1 -1", "1 0;0", "1,1 0", "1,1 0;0,1", "1,1 0,1;0", "1,1,1,1,1 0;0;0;0;0", "1 0,1,2,3,4,5,6,7", "1,1 0,1;1,2", "9223372036854775807 0", "1 9223372036854775807", "1,1 0,1;-"},
	"seam":  {"1 0,0,1,2,2 0;2;1", "1 0,0,1,2,2 0,1;2,1;1,1,1", "1 0,0,1,2,2 0,1;2,1;1", "1 0,0,1,2,2 0,1;2,1;-", "1 0,0,1,2,2 0,1;2,1", "1 0,0,1,2,2 0,1;2,1;1,1;0,1", "1 0,0,1,2,2 -", "1 - -", "0 - -", "1 0,0,1,2,1 0,1;2,1;1,1", "1 0,0,0,2,2 0,1;2,1;1,1", "1 -1,0,1,2,2 0,1;2,1;1,1", "1 0,0,1,2,21 0,1;2,1;1,1", "1 0,0,1,2,2 0,2;2,1;1,1", "1 0,0,1,2,2 0,1;2,4;1,1", "1 0,0,1,2,2 0,1;2,0;1,1", "1 0,0,1,2,2 0,1;1,7;1,1", "1 0,0,1,2,2 0,1;1001,1;1,1", "1 0,0,1,2,2 0,1;-1001,1;1,1", "1 0,0,1,2,2 0,1;1,-1;1,1", "4 0,1,2,3,4,5,6,7,8,9 1,1;1,1;1,1;1,1;1,1", "-1 0,1 1,1;1,1", "0 0,0 1,1", "0 0 -", "9223372036854775807 0,1 1,1", "-9223372036854775808 0,1 1,1", "0 0,1,2,3,4,5,6,7,8,9,10,11,12,13,14,15,16 0,1;0,1;0,1;0,1;0,1;0,1;0,1;0,1;0,1;0,1;0,1;0,1;0,1;0,1;0,1;0,1", "1 0,0,1,2,2 0,1,2,1,1,1"},
	"rest":  {"0 -", "-1 -", "101 -", "0 0", "5 0", "5 6", "5 -1", "5 1,6", "100 101", "100 1,1,1,1,1,1,1,1,1,1,1,1,1", "9223372036854775807 1", "5 9223372036854775807", "-9223372036854775808 -"},
}

// upTo returns the numbers from a to b, each one after a comma.
func upTo(a, b int) string {
	text := ""
	for i := a; i <= b; i++ {
		text += fmt.Sprint(",", i)
	}
	return text
}

// smallNumbers are what numbers of acts are chosen from.
var smallNumbers = []int{0, 1, 2, 3, 4, 5, 6, 7, 8, 9, 10, 12, 20, 23, 24, 50, 198, 199, 298, 299, 300, 301, 1000, 1001, 5039, 5040, -1, -2, -5, -1000, -1001, 1 << 40}

// source makes acts from a random source.
type source struct {
	*rand.Rand
	names []string
}

func newSource(seed uint64, names int) source {
	s := source{Rand: rand.New(rand.NewPCG(seed, 10))}
	for i := range names {
		s.names = append(s.names, strings.Repeat("n", 1+i%3)+string(rune('a'+i%26)))
	}
	return s
}

func pick[T any](s source, list []T) T { return list[s.IntN(len(list))] }

// line returns an act; most have the kind of ware that they need, if the clerk has one.
func (s source) line(c *clerk) string {
	kind := pick(s, kinds)
	words := []string{}
	for word, f := range c.forms {
		if f.kind == kind || f.kind == "" && (word == kind || word == "drop" && s.IntN(3) == 0) {
			words = append(words, word)
		}
	}
	slices.Sort(words)
	f := c.forms[pick(s, words)]
	var known []string
	for _, name := range c.names {
		if c.goods[name].kind == kind || s.IntN(30) == 0 {
			known = append(known, name)
		}
	}
	parts := []string{f.word}
	for i, place := range f.places {
		switch {
		case (place == "NAME" || place == "OTHER") && (f.kind != "" || f.word == "drop") && len(known) > 0 && s.IntN(20) > 0:
			parts = append(parts, pick(s, known))
		case i == 0 || place == "OTHER" || place == "NEW":
			parts = append(parts, pick(s, s.names))
		case f.kind == "":
			list := examples[f.word]
			if s.IntN(6) == 0 {
				list = wrong[f.word]
			}
			return strings.Join(append(parts, pick(s, list)), " ")
		default:
			parts = append(parts, fmt.Sprint(pick(s, smallNumbers[:1+s.IntN(len(smallNumbers))])))
		}
	}
	return strings.Join(parts, " ")
}

// spoilt returns a line that differs from the given one in a few bytes.
func (s source) spoilt(line string) string {
	bytes := []byte(line)
	for range 1 + s.IntN(2) {
		at := s.IntN(len(bytes) + 1)
		letter := pick(s, []byte("  ,,;;--00111ab\n\t+w()*^\x00\xffA"))
		switch {
		case s.IntN(3) == 0 || at == len(bytes):
			bytes = slices.Insert(bytes, at, letter)
		case s.IntN(2) == 0:
			bytes = slices.Delete(bytes, at, at+1)
		default:
			bytes[at] = letter
		}
	}
	return string(bytes)
}

// state is all that a shop tells of itself.
func state(s *shop.Shop) string {
	kinds := []string{}
	for _, name := range s.Names() {
		kinds = append(kinds, s.Kind(name))
	}
	return fmt.Sprintf("%q %q %q\n%s", s.Names(), kinds, s.Log(), s.Text())
}

// state is what a shop should tell of itself.
func (c *clerk) state() string {
	kinds := []string{}
	for _, name := range c.names {
		kinds = append(kinds, c.goods[name].kind)
	}
	return fmt.Sprintf("%q %q %q\n%s", c.names, kinds, c.log, c.text())
}

// errorOf returns what Say returns of an error.
func errorOf(errno api.Errno) string {
	return fmt.Sprintf("error %d\n", errno)
}
