package trim_test

import (
	"slices"
	"sort"
	"strings"
	"testing"

	"galloon/api"
	"galloon/trim"
)

func palindromesOf(word string) []string {
	var list []string
	for p := range len(word) {
		for k := 1; p+k <= len(word); k++ {
			if s := word[p : p+k]; reads(s) && !slices.Contains(list, s) {
				list = append(list, s)
			}
		}
	}
	sort.Slice(list, func(i, j int) bool {
		if len(list[i]) != len(list[j]) {
			return len(list[i]) < len(list[j])
		}
		return list[i] < list[j]
	})
	return list
}

func checkPalindromes(t *testing.T, word string) {
	t.Helper()
	want := palindromesOf(word)
	if got, e := trim.Palindromes(word); e != api.OK || !slices.Equal(got, want) {
		t.Fatalf("Palindromes(%q) = %q, %d, want %q", word, got, e, want)
	}
}

func checkPlaces(t *testing.T, word string) {
	t.Helper()
	centers := make([]int, max(0, 2*len(word)-1))
	occurrences, position, length := 0, 0, 0
	for p := range len(word) {
		for k := 1; p+k <= len(word); k++ {
			if !reads(word[p : p+k]) {
				continue
			}
			occurrences++
			centers[2*p+k-1] = max(centers[2*p+k-1], k)
			if k > length {
				position, length = p, k
			}
		}
	}
	if got, e := trim.Centers(word); e != api.OK || !slices.Equal(got, centers) {
		t.Fatalf("Centers(%q) = %v, %d, want %v", word, got, e, centers)
	}
	if got, e := trim.Occurrences(word); e != api.OK || got != occurrences {
		t.Fatalf("Occurrences(%q) = %d, %d, want %d", word, got, e, occurrences)
	}
	if p, k, e := trim.Longest(word); e != api.OK || p != position || k != length {
		t.Fatalf("Longest(%q) = %d, %d, %d, want %d, %d", word, p, k, e, position, length)
	}
}

func checkEnds(t *testing.T, word string) {
	t.Helper()
	ends := make([]int, len(word))
	for last := range ends {
		for begin := last; begin >= 0; begin-- {
			if reads(word[begin : last+1]) {
				ends[last] = last + 1 - begin
			}
		}
	}
	if got, e := trim.Ends(word); e != api.OK || !slices.Equal(got, ends) {
		t.Fatalf("Ends(%q) = %v, %d, want %v", word, got, e, ends)
	}
}

func checkRich(t *testing.T, word string) {
	t.Helper()
	want := -1
	for last := range len(word) {
		if len(palindromesOf(word[:last+1])) == len(palindromesOf(word[:last])) {
			want = last
			break
		}
	}
	got, e := trim.Rich(word)
	if e != api.OK || got != want {
		t.Fatalf("Rich(%q) = %d, %d, want %d", word, got, e, want)
	}
	if rich := len(palindromesOf(word)) == len(word); rich != (got == -1) {
		t.Fatalf("Rich(%q) = %d, but rich: %t", word, got, rich)
	}
}

// P1.1 for all short words, and for long ones.
func TestOccurrencesByDefinition(t *testing.T) {
	for _, word := range slices.Concat(allWords(4, 6), allWords(2, 10), longWords()) {
		checkPalindromes(t, word)
		checkPlaces(t, word)
	}
}

// P1.1: the order of palindromes is by lengths first, whatever the order in the word is.
func TestOrderOfPalindromes(t *testing.T) {
	for word, want := range map[string]string{
		"":         "",
		"a":        "a",
		"abba":     "a b bb abba",
		"dcba":     "a b c d",
		"ddbbaacc": "a b c d aa bb cc dd",
		"dadaba":   "a b d aba ada dad",
		"aaaa":     "a aa aaa aaaa",
	} {
		got, e := trim.Palindromes(word)
		if e != api.OK || strings.Join(got, " ") != want {
			t.Errorf("Palindromes(%q) = %q, %d, want %s", word, got, e, want)
		}
	}
}

// P1.1: the empty word has no center, one letter has one, and the smallest position of several counts.
func TestEdgesOfCenters(t *testing.T) {
	if got, e := trim.Centers(""); e != api.OK || len(got) != 0 {
		t.Errorf("Centers of the empty word: %v, %d", got, e)
	}
	if got, e := trim.Centers("c"); e != api.OK || !slices.Equal(got, []int{1}) {
		t.Errorf("Centers of a letter: %v, %d", got, e)
	}
	if got, e := trim.Centers("abba"); e != api.OK || !slices.Equal(got, []int{1, 0, 1, 4, 1, 0, 1}) {
		t.Errorf("Centers of abba: %v, %d", got, e)
	}
	for word, want := range map[string][2]int{"": {0, 0}, "d": {0, 1}, "abcd": {0, 1}, "abbaab": {0, 4}, "cdabacb": {2, 3}, "dcabbaab": {2, 4}} {
		if p, k, e := trim.Longest(word); e != api.OK || [2]int{p, k} != want {
			t.Errorf("Longest(%q) = %d, %d, %d, want %v", word, p, k, e, want)
		}
	}
	for word, want := range map[string]int{"": 0, "a": 1, "ab": 2, "abba": 6, strings.Repeat("a", 100): 5050} {
		if n, e := trim.Occurrences(word); e != api.OK || n != want {
			t.Errorf("Occurrences(%q) = %d, %d, want %d", word, n, e, want)
		}
	}
}

// P1.2 for all short words, and for long ones.
func TestEndsByDefinition(t *testing.T) {
	for _, word := range slices.Concat(allWords(4, 6), allWords(2, 10), longWords()) {
		checkEnds(t, word)
	}
	for _, word := range slices.Concat(allWords(4, 6), allWords(2, 11)) {
		checkRich(t, word)
	}
}

// P1.2: Rich returns the first position of several, and -1 for the empty word.
func TestEdgesOfRich(t *testing.T) {
	for word, want := range map[string]int{
		"":                        -1,
		"a":                       -1,
		"abcd":                    -1,
		"abba":                    -1,
		"abca":                    3,
		"abcabc":                  3,
		"abcabcd":                 3,
		"aabbccaabbcc":            6,
		"ddddabca":                7,
		strings.Repeat("a", 100):  -1,
		strings.Repeat("ab", 50):  -1,
		strings.Repeat("abc", 33): 3,
	} {
		if n, e := trim.Rich(word); e != api.OK || n != want {
			t.Errorf("Rich(%q) = %d, %d, want %d", word, n, e, want)
		}
	}
}
