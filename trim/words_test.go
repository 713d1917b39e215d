package trim_test

import (
	"math/rand/v2"
	"strings"
)

// The helpers in this file follow the chapter's definitions literally, and share no code with the package.

// allWords returns all words of at most most letters, from the first so many letters.
func allWords(letters, most int) []string {
	words := []string{""}
	for begin, length := 0, 0; length < most; length++ {
		end := len(words)
		for _, word := range words[begin:end] {
			for i := range letters {
				words = append(words, word+"abcd"[i:i+1])
			}
		}
		begin = end
	}
	return words
}

// longWords returns words up to the greatest length: with patterns, and without.
func longWords() []string {
	words := []string{
		strings.Repeat("a", 100),
		strings.Repeat("ab", 50),
		strings.Repeat("abc", 33),
		strings.Repeat("abcd", 25),
		strings.Repeat("a", 50) + strings.Repeat("b", 50),
		strings.Repeat("aab", 33) + "d",
		strings.Repeat("d", 49) + "c" + strings.Repeat("d", 50),
	}
	random := rand.New(rand.NewPCG(1, 2))
	for letters := 2; letters <= 4; letters++ {
		for range 20 {
			word := make([]byte, 20+random.IntN(81))
			for i := range word {
				word[i] = "abcd"[random.IntN(letters)]
			}
			words = append(words, string(word))
		}
	}
	return words
}

// noWords are strings that are no words: too long, or with a byte that is no letter.
func noWords() []string {
	return []string{
		"e", "A", "`", " ", "0", "\x00", "\xff", "é", "ä", "abce", "eabc", "abeba", "ab\x00ba", "a b a", "abc\n",
		strings.Repeat("a", 101),
		strings.Repeat("abcd", 26),
		strings.Repeat("a", 100) + "e",
		strings.Repeat("b", 1<<20),
	}
}

func backwards(s string) string {
	result := ""
	for i := range len(s) {
		result = s[i:i+1] + result
	}
	return result
}

func reads(s string) bool { return s == backwards(s) }

// isSubsequence tells whether s arises from word by deleting letters.
func isSubsequence(s, word string) bool {
	for i := range len(word) {
		if s != "" && s[0] == word[i] {
			s = s[1:]
		}
	}
	return s == ""
}

// cuttings returns all lists of non-empty palindromes that, one after the other, are the word.
func cuttings(word string) [][]string {
	if word == "" {
		return [][]string{nil}
	}
	var lists [][]string
	for n := 1; n <= len(word); n++ {
		if !reads(word[:n]) {
			continue
		}
		for _, rest := range cuttings(word[n:]) {
			lists = append(lists, append([]string{word[:n]}, rest...))
		}
	}
	return lists
}

// closureOf tries all lengths in turn. (The letters that a palindrome has beyond its middle are
// known from those before it, and twice the word's length is always enough.)
func closureOf(word string) string {
	for more := 0; ; more++ {
		if s := word + backwards(word[:more]); reads(s) {
			return s
		}
	}
}

func towerOf(word string) string {
	tower := ""
	for _, letter := range word {
		tower = closureOf(tower + string(letter))
	}
	return tower
}
