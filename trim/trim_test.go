package trim_test

import (
	"reflect"
	"slices"
	"testing"

	"galloon/api"
	"galloon/trim"
)

// P1.6 for short and for long words.
func TestProperties(t *testing.T) {
	for _, word := range slices.Concat(allWords(4, 5), allWords(2, 9), longWords()) {
		n := len(word)
		palindromes, _ := trim.Palindromes(word)
		if len(palindromes) > n {
			t.Errorf("%q has %d palindromes", word, len(palindromes))
		}
		if others, _ := trim.Palindromes(backwards(word)); !slices.Equal(palindromes, others) {
			t.Errorf("%q has the palindromes %q, its reversal %q", word, palindromes, others)
		}
		inner, _ := trim.Inner(word)
		outer, _ := trim.Outer(word)
		if len(inner)+len(outer) != 2*n || !reads(inner) || !reads(outer) || !isSubsequence(inner, word) || !isSubsequence(word, outer) {
			t.Errorf("%q has the inner %q and the outer %q", word, inner, outer)
		}
		parts, _ := trim.Fewest(word)
		if (len(parts) == 1) != (word != "" && reads(word)) {
			t.Errorf("%q has the parts %q", word, parts)
		}
		if tower, e := trim.Tower(word); e == api.OK {
			if place, e := trim.Rich(tower); !reads(tower) || place != -1 || e != api.OK {
				t.Errorf("the tower %q of %q: %d, %d", tower, word, place, e)
			}
		}
	}
}

// results calls every function with the word, and lists what each one returns.
func results(word string, parts []string) [][]any {
	list := func(values ...any) []any { return values }
	pair := func(value any, e api.Errno) []any { return list(value, e) }
	strings := func(values []string, e api.Errno) []any { return list(slices.Concat(values), e) }
	ints := func(values []int, e api.Errno) []any { return list(slices.Concat(values), e) }
	text := func(value string, e api.Errno) []any { return pair(value, e) }
	number := func(value int, e api.Errno) []any { return pair(value, e) }
	position, length, e := trim.Longest(word)
	return [][]any{
		strings(trim.Palindromes(word)), ints(trim.Centers(word)), number(trim.Occurrences(word)),
		list(position, length, e), ints(trim.Ends(word)), number(trim.Rich(word)),
		strings(trim.Fewest(word)), list(trim.Check(word, parts)), number(trim.Ways(word)),
		text(trim.Closure(word)), text(trim.Tower(word)), text(trim.Base(word)),
		text(trim.Inner(word)), text(trim.Outer(word)),
	}
}

// P1 and the errors: a string that is no word leads to ErrArg and zero values, in every function.
func TestNoWords(t *testing.T) {
	for _, word := range noWords() {
		for _, parts := range [][]string{nil, {}, {word}, {"a", "b"}} {
			for i, result := range results(word, parts) {
				for k, value := range result {
					if k == len(result)-1 {
						if value != api.ErrArg {
							t.Errorf("function %d of %.20q: error %v", i, word, value)
						}
					} else if v := reflect.ValueOf(value); v.Kind() == reflect.Slice && v.Len() > 0 || v.Kind() != reflect.Slice && !v.IsZero() {
						t.Errorf("function %d of %.20q returns %v with an error", i, word, value)
					}
				}
			}
		}
	}
}

// Words of MaxWord letters are words, with each of the four letters.
func TestLongestWords(t *testing.T) {
	for _, word := range longWords() {
		for i, result := range results(word, nil) {
			if e := result[len(result)-1]; e == api.ErrArg {
				t.Errorf("function %d of %q: ErrArg", i, word)
			}
		}
	}
}

// P2: the same call returns the same, whatever is called, and done with the results, in between.
func TestRepeatedCalls(t *testing.T) {
	words := slices.Concat(allWords(2, 4), longWords()[:10])
	var before [][][]any
	for _, word := range words {
		before = append(before, results(word, []string{"a", "b"}))
		spoil(word)
	}
	for i, word := range words {
		if again := results(word, []string{"a", "b"}); !reflect.DeepEqual(before[i], again) {
			t.Errorf("%q: first %v, then %v", word, before[i], again)
		}
	}
}

// spoil overwrites results, which are nobody else's memory.
func spoil(word string) {
	palindromes, _ := trim.Palindromes(word)
	parts, _ := trim.Fewest(word)
	for _, list := range [][]string{palindromes, parts} {
		for i := range list {
			list[i] = "spoilt"
		}
	}
	centers, _ := trim.Centers(word)
	ends, _ := trim.Ends(word)
	for _, list := range [][]int{centers, ends} {
		for i := range list {
			list[i] = -7
		}
	}
}

// Rule 5: Check changes no argument.
func TestCheckKeepsParts(t *testing.T) {
	parts := []string{"aa", "b", "cc", "x"}
	for _, word := range []string{"aab", "aabcc", "aabccx", "ba", ""} {
		trim.Check(word, parts)
		trim.Check(word, parts[:3])
	}
	if !slices.Equal(parts, []string{"aa", "b", "cc", "x"}) {
		t.Errorf("Check has changed the parts: %q", parts)
	}
}
