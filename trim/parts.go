package trim

import (
	"iter"
	"slices"
	"strings"

	"galloon/api"
)

// maxWays is the greatest number that Ways returns.
const maxWays = 1 << 60

// Fewest returns a list of non-empty palindromes that, one after the other, are the word,
// with the smallest number of them.
func Fewest(word string) ([]string, api.Errno) {
	if !isWord(word) {
		return nil, api.ErrArg
	}
	begins := fewestBegins(word)
	var parts []string
	for end := len(word); end > 0; end = begins[end] {
		parts = append(parts, word[begins[end]:end])
	}
	slices.Reverse(parts)
	return parts, api.OK
}

// fewestBegins returns, at each n, where the last one of the fewest parts of word[:n] begins.
func fewestBegins(word string) []int {
	numbers := make([]int, len(word)+1)
	begins := make([]int, len(word)+1)
	for last := range len(word) {
		end := last + 1
		numbers[end], begins[end] = numbers[last]+1, last
		for begin := range lastParts(word, end) {
			if numbers[begin]+1 < numbers[end] {
				numbers[end], begins[end] = numbers[begin]+1, begin
			}
		}
	}
	return begins
}

// Check returns OK if parts are non-empty palindromes that, one after the other, are the word.
func Check(word string, parts []string) api.Errno {
	if !isWord(word) {
		return api.ErrArg
	}
	rest := word
	for _, part := range parts {
		if part == "" || !strings.HasPrefix(rest, part) || !isPalindrome(part) {
			return api.ErrAnswer
		}
		rest = rest[len(part):]
	}
	if rest != "" {
		return api.ErrAnswer
	}
	return api.OK
}

// Ways returns the number of lists of non-empty palindromes that, one after the other, are the word.
func Ways(word string) (int, api.Errno) {
	if !isWord(word) {
		return 0, api.ErrArg
	}
	ways := []int{1}
	for last := range len(word) {
		total := 0
		for begin := range lastParts(word, last+1) {
			total += ways[begin]
			// No later number is smaller, as each letter is a palindrome;
			// and to stop here keeps the sum in the range of int.
			if total > maxWays {
				return 0, api.ErrFull
			}
		}
		ways = append(ways, total)
	}
	return ways[len(word)], api.OK
}

// lastParts visits, in ascending order, the positions from which on word[:end] ends with a non-empty palindrome.
func lastParts(word string, end int) iter.Seq[int] {
	return func(yield func(int) bool) {
		for begin := range end {
			if isPalindrome(word[begin:end]) && !yield(begin) {
				return
			}
		}
	}
}
