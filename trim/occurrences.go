package trim

import (
	"cmp"
	"maps"
	"slices"

	"galloon/api"
)

// Palindromes returns the different non-empty palindromes that occur in the word,
// ordered by their lengths, and those of one length lexicographically.
func Palindromes(word string) ([]string, api.Errno) {
	if !isWord(word) {
		return nil, api.ErrArg
	}
	found := map[string]bool{}
	// The longest palindrome at each end is enough: a shorter one with the same end
	// occurs earlier, too, as its mirror image at the beginning of the longest one.
	for last, length := range endLengths(word) {
		found[word[last+1-length:last+1]] = true
	}
	return slices.SortedFunc(maps.Keys(found), shorterFirst), api.OK
}

func shorterFirst(a, b string) int {
	return cmp.Or(cmp.Compare(len(a), len(b)), cmp.Compare(a, b))
}

// Centers returns for each center of the word the length of the longest palindrome at it.
func Centers(word string) ([]int, api.Errno) {
	if !isWord(word) {
		return nil, api.ErrArg
	}
	return centerLengths(word), api.OK
}

// Occurrences returns the number of pairs of a position and a positive length
// for which the word has a palindrome there.
func Occurrences(word string) (int, api.Errno) {
	if !isWord(word) {
		return 0, api.ErrArg
	}
	total := 0
	// A palindrome without its first and last letter is one at the same center,
	// so the lengths at a center go down from the longest one by steps of 2.
	for _, length := range centerLengths(word) {
		total += (length + 1) / 2
	}
	return total, api.OK
}

// Longest returns the position and the length of the longest palindrome,
// with the smallest position if there are several.
func Longest(word string) (int, int, api.Errno) {
	if !isWord(word) {
		return 0, 0, api.ErrArg
	}
	position, longest := 0, 0
	// Palindromes of one length stand in the order of their centers: the first one found stays.
	for center, length := range centerLengths(word) {
		if length > longest {
			position, longest = (center+1-length)/2, length
		}
	}
	return position, longest, api.OK
}

// Ends returns for each position the length of the longest palindrome that ends with the letter there.
func Ends(word string) ([]int, api.Errno) {
	if !isWord(word) {
		return nil, api.ErrArg
	}
	return endLengths(word), api.OK
}

// Rich returns the smallest position at which no palindrome ends that did not occur before,
// and -1 if the word is rich.
func Rich(word string) (int, api.Errno) {
	if !isWord(word) {
		return 0, api.ErrArg
	}
	before := map[string]bool{}
	for last, length := range endLengths(word) {
		palindrome := word[last+1-length : last+1]
		if before[palindrome] {
			return last, api.OK
		}
		before[palindrome] = true
	}
	return -1, api.OK
}

func centerLengths(word string) []int {
	var lengths []int
	for center := range 2*len(word) - 1 {
		lengths = append(lengths, lengthAt(word, center))
	}
	return lengths
}

// lengthAt returns the length of the longest palindrome at a center.
func lengthAt(word string, center int) int {
	// It begins with the letter at an even center, and with the empty string at an odd one.
	begin, end := (center+1)/2, center/2+1
	for begin > 0 && end < len(word) && word[begin-1] == word[end] {
		begin--
		end++
	}
	return end - begin
}

func endLengths(word string) []int {
	var lengths []int
	for last := range len(word) {
		lengths = append(lengths, longestEnd(word[:last+1]))
	}
	return lengths
}
