package trim_test

import (
	"slices"
	"strings"
	"testing"

	"galloon/api"
	"galloon/trim"
)

// wantString checks a result that is a string of at most MaxWord letters, or else ErrFull.
func wantString(t *testing.T, call, word, got string, e api.Errno, want string) {
	t.Helper()
	if len(want) > api.MaxWord {
		if e != api.ErrFull || got != "" {
			t.Errorf("%s(%q) = %q, %d, want ErrFull", call, word, got, e)
		}
		return
	}
	if e != api.OK || got != want {
		t.Errorf("%s(%q) = %q, %d, want %q", call, word, got, e, want)
	}
}

// P1.4 for all short words, and for long ones.
func TestClosuresByDefinition(t *testing.T) {
	for _, word := range slices.Concat(allWords(4, 6), allWords(2, 10), longWords()) {
		s, e := trim.Closure(word)
		wantString(t, "Closure", word, s, e, closureOf(word))
	}
	for _, word := range slices.Concat(allWords(4, 6), allWords(2, 9)) {
		s, e := trim.Tower(word)
		wantString(t, "Tower", word, s, e, towerOf(word))
	}
}

// P1.4: closures of exactly MaxWord letters, and of one more or less.
func TestGreatestClosures(t *testing.T) {
	for _, word := range []string{
		"",
		strings.Repeat("abc", 16) + "ab",  // 99 letters
		strings.Repeat("abc", 16) + "abb", // 100
		strings.Repeat("abc", 17),         // 101
		strings.Repeat("a", 100),          // 100
		strings.Repeat("a", 99) + "b",     // 199
		strings.Repeat("ab", 50),          // 101
	} {
		s, e := trim.Closure(word)
		wantString(t, "Closure", word, s, e, closureOf(word))
	}
}

// P1.4: towers up to MaxWord letters, and beyond it at the end or on the way.
func TestGreatestTowers(t *testing.T) {
	for word, length := range map[string]int{
		"":                            0,
		strings.Repeat("a", 100):      100,
		"aaabaccaa":                   100,
		"aabcaaaab":                   100,
		"aaaabacbc":                   101,
		"aababacb":                    101,
		"abaaababa":                   101,
		"abcdab":                      59,
		"abcdabc":                     115,
		"abcdabcd":                    223,
		strings.Repeat("a", 49) + "b": 99,
		strings.Repeat("a", 50) + "b": 101,
		strings.Repeat("a", 16) + strings.Repeat("b", 5): 101,
	} {
		if n := len(towerOf(word)); n != length {
			t.Errorf("the tower of %q has %d letters, not %d", word, n, length)
		}
		s, e := trim.Tower(word)
		wantString(t, "Tower", word, s, e, towerOf(word))
	}
	for _, word := range []string{strings.Repeat("abcd", 25), strings.Repeat("ab", 50)} {
		if s, e := trim.Tower(word); e != api.ErrFull || s != "" {
			t.Errorf("Tower(%s) = %s, %d", word, s, e)
		}
	}
}

// P1.4: Base is found for each tower, and for nothing else.
func TestBaseByDefinition(t *testing.T) {
	words := slices.Concat(allWords(4, 6), allWords(2, 9))
	bases := map[string]string{}
	for _, word := range words { // a tower has no other letters than its base, and at least as many
		bases[towerOf(word)] = word
	}
	for _, word := range words {
		want, is := bases[word]
		got, e := trim.Base(word)
		if is && (e != api.OK || got != want) || !is && (e != api.ErrNone || got != "") {
			t.Fatalf("Base(%q) = %q, %d, want %q, %t", word, got, e, want, is)
		}
	}
	for _, word := range slices.Concat(allWords(4, 5), allWords(2, 8), []string{strings.Repeat("a", 49) + "b", strings.Repeat("d", 100)}) {
		tower := towerOf(word)
		if len(tower) > api.MaxWord {
			continue
		}
		if got, e := trim.Base(tower); e != api.OK || got != word {
			t.Errorf("Base(%q) = %q, %d, want %q", tower, got, e, word)
		}
	}
}

// P1.4: strings that only begin like towers, and palindromes that are none.
func TestNoBase(t *testing.T) {
	for _, word := range []string{"ab", "aab", "abac", "abacab", "abacabac", "abba", "abcba", "abacabaabacabab", strings.Repeat("a", 99) + "b", strings.Repeat("abc", 33), "b" + strings.Repeat("a", 98) + "b"} {
		if base, e := trim.Base(word); e != api.ErrNone || base != "" {
			t.Errorf("Base(%q) = %q, %d", word, base, e)
		}
	}
}
