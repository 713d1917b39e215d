package trim

import (
	"strings"

	"galloon/api"
)

// Closure returns the shortest palindrome that begins with the word.
func Closure(word string) (string, api.Errno) {
	if !isWord(word) {
		return "", api.ErrArg
	}
	result := closed(word)
	if len(result) > api.MaxWord {
		return "", api.ErrFull
	}
	return result, api.OK
}

// Tower returns what arises from the empty string if each letter of the word in turn is added,
// and the result replaced by its closure.
func Tower(word string) (string, api.Errno) {
	if !isWord(word) {
		return "", api.ErrArg
	}
	tower := ""
	for i := range len(word) {
		tower = closed(tower + word[i:i+1])
		if len(tower) > api.MaxWord {
			return "", api.ErrFull
		}
	}
	return tower, api.OK
}

// Base returns the word whose tower the given word is.
func Base(word string) (string, api.Errno) {
	if !isWord(word) {
		return "", api.ErrArg
	}
	base, tower := "", ""
	// A tower begins with all the towers on its way, so the letter after each of them is the one added next.
	for len(tower) < len(word) {
		letter := word[len(tower) : len(tower)+1]
		base += letter
		tower = closed(tower + letter)
		if !strings.HasPrefix(word, tower) {
			return "", api.ErrNone
		}
	}
	return base, api.OK
}

// closed returns the closure of s, however long it is.
func closed(s string) string {
	return s + reversed(s[:len(s)-longestEnd(s)])
}
