package trim

import "galloon/api"

// Inner returns the lexicographically smallest one of the longest palindromes that are subsequences of the word.
func Inner(word string) (string, api.Errno) {
	if !isWord(word) {
		return "", api.ErrArg
	}
	return innerSearch(word)(0, len(word)), api.OK
}

// Outer returns a shortest palindrome of which the word is a subsequence.
func Outer(word string) (string, api.Errno) {
	if !isWord(word) {
		return "", api.ErrArg
	}
	search := innerSearch(word)
	half := ""
	begin, end := 0, len(word)
	for end-begin > 1 {
		switch {
		case word[begin] == word[end-1]:
			half += word[begin : begin+1]
			begin++
			end--
		// A letter that has no partner is doubled: the one without which the longer palindrome remains.
		case len(search(begin+1, end)) >= len(search(begin, end-1)):
			half += word[begin : begin+1]
			begin++
		default:
			half += word[end-1 : end]
			end--
		}
	}
	return half + word[begin:end] + reversed(half), api.OK
}

// innerSearch returns a function that finds Inner of word[begin:end].
func innerSearch(word string) func(begin, end int) string {
	// Without what is found already, a search takes time that doubles with each letter.
	found := map[[2]int]string{}
	var search func(begin, end int) string
	search = func(begin, end int) string {
		if end-begin < 2 {
			return word[begin:end]
		}
		if known, ok := found[[2]int{begin, end}]; ok {
			return known
		}
		result := ""
		// Equal letters at both ends are always taken: a palindrome without both would be longer with them,
		// and one with the last letter alone begins with the same letter, but has fewer to choose from.
		if word[begin] == word[end-1] {
			letter := word[begin : begin+1]
			result = letter + search(begin+1, end-1) + letter
		} else {
			result = better(search(begin+1, end), search(begin, end-1))
		}
		found[[2]int{begin, end}] = result
		return result
	}
	return search
}

// better returns the longer one of two strings, and of equally long ones the lexicographically smaller one.
func better(a, b string) string {
	if len(a) > len(b) || len(a) == len(b) && a < b {
		return a
	}
	return b
}
