// Package trim is layer 1: it looks for patterns in braids that read the same from both ends.
// See shared/doc/01-trim.md.
package trim

import (
	"slices"

	"galloon/api"
)

func isWord(s string) bool {
	if len(s) > api.MaxWord {
		return false
	}
	for i := range len(s) {
		if s[i] < 'a' || s[i] > 'd' {
			return false
		}
	}
	return true
}

func isPalindrome(s string) bool {
	for i := range len(s) / 2 {
		if s[i] != s[len(s)-1-i] {
			return false
		}
	}
	return true
}

func reversed(s string) string {
	letters := []byte(s)
	slices.Reverse(letters)
	return string(letters)
}

// longestEnd returns the length of the longest palindrome with which s ends.
func longestEnd(s string) int {
	for begin := range len(s) {
		if isPalindrome(s[begin:]) {
			return len(s) - begin
		}
	}
	return 0
}
