package shop

import (
	"strconv"
	"strings"

	"galloon/api"
)

// none is how an empty list or string is written.
const none = "-"

// joined returns the parts, separated by one blank each.
func joined(parts ...string) string {
	return strings.Join(parts, " ")
}

func number(n int) string {
	return strconv.Itoa(n)
}

func fraction(f api.Frac) string {
	return number(f.Num) + "/" + number(f.Den)
}

func text(s string) string {
	if s == "" {
		return none
	}
	return s
}

func list(l []int) string {
	return text(strings.Join(each(l, number), ","))
}

func lists(l [][]int) string {
	return text(strings.Join(each(l, list), ";"))
}

func texts(l []string) string {
	return text(strings.Join(each(l, text), ";"))
}

// each returns what write makes of each item.
func each[T any](items []T, write func(T) string) []string {
	var written []string
	for _, item := range items {
		written = append(written, write(item))
	}
	return written
}
