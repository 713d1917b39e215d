package trim_test

import (
	"slices"
	"strings"
	"testing"

	"galloon/api"
	"galloon/trim"
)

// innerOf goes through all subsequences.
func innerOf(word string) string {
	best := ""
	for set := range 1 << len(word) {
		letters := make([]byte, 0, len(word))
		for i := range len(word) {
			if set>>i&1 == 1 {
				letters = append(letters, word[i])
			}
		}
		s := string(letters)
		if (len(s) > len(best) || len(s) == len(best) && s < best) && reads(s) {
			best = s
		}
	}
	return best
}

// P1.5 and P4: the first one of the longest palindromes.
func TestInnerByDefinition(t *testing.T) {
	for _, word := range slices.Concat(allWords(4, 6), allWords(3, 7), allWords(2, 9)) {
		want := innerOf(word)
		if got, e := trim.Inner(word); e != api.OK || got != want {
			t.Fatalf("Inner(%q) = %q, %d, want %q", word, got, e, want)
		}
	}
	for _, word := range []string{"abcdabcdabcd", "dcbadcbadcba", "dbcadcbabdca", "cdabdcbacdab", "badcbadcab"} {
		want := innerOf(word)
		if got, e := trim.Inner(word); e != api.OK || got != want {
			t.Errorf("Inner(%q) = %q, %d, want %q", word, got, e, want)
		}
	}
}

// P1.5: of letters that are as good as each other, the smallest one is taken, wherever it stands.
func TestSmallestInner(t *testing.T) {
	for word, want := range map[string]string{
		"":                         "",
		"d":                        "d",
		"dcba":                     "a",
		"abcd":                     "a",
		"abcb":                     "bcb",
		"bab":                      "bab",
		"bcab":                     "bab",
		"cdcaba":                   "aba",
		"abacdc":                   "aba",
		"ddccbbaa":                 "aa",
		"aabbccdd":                 "aa",
		strings.Repeat("c", 100):   strings.Repeat("c", 100),
		strings.Repeat("dcba", 25): innerOfLong(),
	} {
		if got, e := trim.Inner(word); e != api.OK || got != want {
			t.Errorf("Inner(%q) = %q, %d, want %q", word, got, e, want)
		}
	}
}

// innerOfLong finds Inner of 25 times dcba by a table of lengths, from which the letters are
// then chosen from the outside to the inside, the smallest possible one each time.
func innerOfLong() string {
	word := strings.Repeat("dcba", 25)
	n := len(word)
	lengths := make([][]int, n+1)
	for i := range lengths {
		lengths[i] = make([]int, n+1)
	}
	for size := 1; size <= n; size++ {
		for i := 0; i+size <= n; i++ {
			if size == 1 {
				lengths[i][i+1] = 1
			} else if word[i] == word[i+size-1] {
				lengths[i][i+size] = lengths[i+1][i+size-1] + 2
			} else {
				lengths[i][i+size] = max(lengths[i+1][i+size], lengths[i][i+size-1])
			}
		}
	}
	half, begin, end := "", 0, n
	for left := lengths[0][n]; left > 1; left -= 2 {
		for _, letter := range []string{"a", "b", "c", "d"} {
			i, j := strings.Index(word[begin:end], letter), strings.LastIndex(word[begin:end], letter)
			if i < j && lengths[begin+i+1][begin+j] == left-2 {
				half += letter
				begin, end = begin+i+1, begin+j
				break
			}
		}
	}
	middle := ""
	if lengths[0][n]%2 == 1 {
		middle = string(slices.Min([]byte(word[begin:end])))
	}
	return half + middle + backwards(half)
}

// P1.5: Outer is a palindrome that has the word as a subsequence, and no shorter string is one.
func TestOuterByDefinition(t *testing.T) {
	var palindromes []string
	for _, s := range allWords(4, 7) {
		if reads(s) {
			palindromes = append(palindromes, s)
		}
	}
	for _, word := range allWords(4, 4) { // 2 n - 1 letters are always enough
		shortest := slices.IndexFunc(palindromes, func(s string) bool { return isSubsequence(word, s) })
		got, e := trim.Outer(word)
		if e != api.OK || !reads(got) || !isSubsequence(word, got) || len(got) != len(palindromes[shortest]) {
			t.Fatalf("Outer(%q) = %q, %d, want one like %q", word, got, e, palindromes[shortest])
		}
	}
	for _, word := range slices.Concat(allWords(3, 7), allWords(2, 9)) {
		got, e := trim.Outer(word)
		if e != api.OK || !reads(got) || !isSubsequence(word, got) || len(got) != 2*len(word)-len(innerOf(word)) {
			t.Fatalf("Outer(%q) = %q, %d", word, got, e)
		}
	}
}

// P1.5: Outer may have more than MaxWord letters.
func TestLongOuter(t *testing.T) {
	for word, want := range map[string]int{
		"":                         0,
		"a":                        1,
		"ab":                       3,
		"abcb":                     5,
		strings.Repeat("ab", 50):   101,
		strings.Repeat("abcd", 25): 200 - len(innerOfLong()),
		strings.Repeat("a", 25) + strings.Repeat("b", 25) + strings.Repeat("c", 25) + strings.Repeat("d", 25): 175,
	} {
		got, e := trim.Outer(word)
		if e != api.OK || len(got) != want || !reads(got) || !isSubsequence(word, got) {
			t.Errorf("Outer(%q) = %q, %d, want %d letters", word, got, e, want)
		}
	}
}
