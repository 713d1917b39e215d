package trim_test

import (
	"slices"
	"strings"
	"testing"

	"galloon/api"
	"galloon/trim"
)

// P1.3 for all short words: the number of the fewest parts, and of all lists.
func TestPartsByDefinition(t *testing.T) {
	for _, word := range slices.Concat(allWords(4, 6), allWords(2, 10)) {
		lists := cuttings(word)
		fewest := len(word)
		for _, list := range lists {
			fewest = min(fewest, len(list))
			if e := trim.Check(word, list); e != api.OK {
				t.Fatalf("Check(%q, %q) = %d", word, list, e)
			}
		}
		parts, e := trim.Fewest(word)
		if e != api.OK || len(parts) != fewest || !isCutting(word, parts) {
			t.Fatalf("Fewest(%q) = %q, %d, want %d parts", word, parts, e, fewest)
		}
		if n, e := trim.Ways(word); e != api.OK || n != len(lists) {
			t.Fatalf("Ways(%q) = %d, %d, want %d", word, n, e, len(lists))
		}
	}
}

func isCutting(word string, parts []string) bool {
	for _, part := range parts {
		if part == "" || !reads(part) {
			return false
		}
	}
	return strings.Join(parts, "") == word
}

// P1.3 and P3: Check tells right lists from wrong ones, and accepts what Fewest returns.
func TestCheckByDefinition(t *testing.T) {
	pieces := allWords(2, 3)
	for _, word := range allWords(2, 5) {
		for _, p := range pieces {
			for _, q := range pieces {
				for _, parts := range [][]string{{p}, {p, q}, {p, q, "a"}, {"b", p, q}} {
					want := api.ErrAnswer
					if isCutting(word, parts) {
						want = api.OK
					}
					if e := trim.Check(word, parts); e != want {
						t.Fatalf("Check(%q, %q) = %d, want %d", word, parts, e, want)
					}
				}
			}
		}
	}
	for _, word := range longWords() {
		parts, e := trim.Fewest(word)
		if e != api.OK || trim.Check(word, parts) != api.OK || !isCutting(word, parts) {
			t.Errorf("Fewest(%q) = %q, %d", word, parts, e)
		}
	}
}

// P1.3: wrong parts of each kind.
func TestEdgesOfCheck(t *testing.T) {
	for _, c := range []struct {
		word  string
		parts []string
		want  api.Errno
	}{
		{"", nil, api.OK},
		{"", []string{}, api.OK},
		{"", []string{""}, api.ErrAnswer},
		{"", []string{"a"}, api.ErrAnswer},
		{"aab", []string{"aa", "b"}, api.OK},
		{"aab", []string{"a", "a", "b"}, api.OK},
		{"aab", nil, api.ErrAnswer},
		{"aab", []string{"aa"}, api.ErrAnswer},
		{"aab", []string{"a", "b"}, api.ErrAnswer},
		{"aab", []string{"b", "aa"}, api.ErrAnswer},
		{"aab", []string{"aab"}, api.ErrAnswer},
		{"aab", []string{"a", "ab"}, api.ErrAnswer},
		{"aab", []string{"", "aa", "b"}, api.ErrAnswer},
		{"aab", []string{"aa", "", "b"}, api.ErrAnswer},
		{"aab", []string{"aa", "b", ""}, api.ErrAnswer},
		{"aab", []string{"aa", "b", "b"}, api.ErrAnswer},
		{"aab", []string{"aa", "bb"}, api.ErrAnswer},
		{"aab", []string{"aa", "e"}, api.ErrAnswer},
		{"aab", []string{"aa", "\xff"}, api.ErrAnswer},
		{"aab", []string{strings.Repeat("a", 1<<20)}, api.ErrAnswer},
		{"aab", slices.Repeat([]string{"a"}, 1<<20), api.ErrAnswer},
		{"aae", []string{"aa", "e"}, api.ErrArg},
		{strings.Repeat("a", 101), []string{strings.Repeat("a", 101)}, api.ErrArg},
		{strings.Repeat("a", 100), []string{strings.Repeat("a", 100)}, api.OK},
	} {
		if e := trim.Check(c.word, c.parts); e != c.want {
			t.Errorf("Check(%.20q, %.20q) = %d, want %d", c.word, c.parts, e, c.want)
		}
	}
}

// P1.3: the empty word is the empty list of parts.
func TestEmptyParts(t *testing.T) {
	if parts, e := trim.Fewest(""); e != api.OK || len(parts) != 0 {
		t.Errorf("Fewest = %q, %d", parts, e)
	}
	if n, e := trim.Ways(""); e != api.OK || n != 1 {
		t.Errorf("Ways = %d, %d", n, e)
	}
}

// P1.3: n equal letters have 2^(n-1) lists; 2^60 is still a number, everything above it is not.
func TestGreatestWays(t *testing.T) {
	for n := 1; n <= 61; n++ {
		if ways, e := trim.Ways(strings.Repeat("c", n)); e != api.OK || ways != 1<<(n-1) {
			t.Errorf("Ways of %d letters = %d, %d", n, ways, e)
		}
	}
	for n := 62; n <= 100; n++ {
		if ways, e := trim.Ways(strings.Repeat("c", n)); e != api.ErrFull || ways != 0 {
			t.Errorf("Ways of %d letters = %d, %d", n, ways, e)
		}
	}
	// Letters between which no palindrome lies multiply the numbers of lists of what is beside them.
	for word, want := range map[string]int{
		strings.Repeat("abcd", 25):                          1,
		strings.Repeat("aab", 2) + "d":                      8,
		strings.Repeat("a", 31) + strings.Repeat("b", 31):   1 << 60,
		strings.Repeat("a", 31) + "bc" + "aaaaaaaaaa" + "d": 1 << 39,
	} {
		if ways, e := trim.Ways(word); e != api.OK || ways != want {
			t.Errorf("Ways(%s) = %d, %d, want %d", word, ways, e, want)
		}
	}
	for _, word := range []string{
		strings.Repeat("a", 31) + strings.Repeat("b", 32),
		strings.Repeat("a", 61) + "ba",
		strings.Repeat("ab", 50),
	} {
		if ways, e := trim.Ways(word); e != api.ErrFull || ways != 0 {
			t.Errorf("Ways(%s) = %d, %d", word, ways, e)
		}
	}
}
