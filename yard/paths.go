package yard

import (
	"strings"

	"galloon/api"
)

// Path returns the letters that lead to f.
func Path(f api.Frac) (string, api.Errno) {
	if !isValid(f) || f.Den == 1 {
		return "", api.ErrArg
	}
	var path []byte
	for at := widest(); at.middle() != f; {
		if len(path) == api.MaxPath {
			return "", api.ErrFull
		}
		if isLess(f, at.middle()) {
			path = append(path, 'L')
			at = at.left()
		} else {
			path = append(path, 'R')
			at = at.right()
		}
	}
	return string(path), api.OK
}

// Follow returns the fraction to which the letters lead.
func Follow(path string) (api.Frac, api.Errno) {
	if len(path) > api.MaxPath || strings.Trim(path, "LR") != "" {
		return api.Frac{}, api.ErrArg
	}
	at := widest()
	for i := range len(path) {
		if path[i] == 'L' {
			at = at.left()
		} else {
			at = at.right()
		}
		// The Den grows with each letter: a whole path may lead out of the range of int.
		if at.middle().Den > api.MaxDen {
			return api.Frac{}, api.ErrFull
		}
	}
	return at.middle(), api.OK
}
