package shop

import (
	"strconv"
	"strings"

	"galloon/api"
)

const maxName = 16

// act is an act that has been read: its word, and its arguments. Those that its form does not have are empty.
type act struct {
	word             string
	name, other, new string
	text             string
	numbers          []int
	list             []int
	lists            [][]int
}

// formOf returns the arguments that follow the word of an act, as the chapter writes them, and nothing if there is no such act.
func formOf(word string) string {
	switch word {
	case "braid", "count", "snake":
		return "NAME TEXT"
	case "match", "deal":
		return "NAME LISTS"
	case "lot":
		return "NAME LIST LISTS"
	case "mix":
		return "NAME M LIST"
	case "rest":
		return "NAME ROOM LIST"
	case "seam":
		return "NAME DEGREE LIST LISTS"
	case "cut", "at":
		return "NAME NUM DEN"
	case "palindromes", "rich", "fewest", "inner", "best", "narrow", "path", "saw", "value", "line", "visits", "heads",
		"measure", "values", "permutes", "balance", "rank", "area", "boxes", "weight", "full", "drop":
		return "NAME"
	case "ranked":
		return "NAME K"
	case "below", "beside", "descent":
		return "NAME N"
	case "proof":
		return "NAME B"
	case "chance":
		return "NAME STEPS"
	case "order":
		return "NAME OTHER"
	case "closure", "tower", "turned", "slope":
		return "NAME NEW"
	case "between", "sum", "product", "blend":
		return "NAME OTHER NEW"
	case "step":
		return "NAME N NEW"
	case "chop":
		return "NAME HEAD N NEW"
	case "insert":
		return "NAME KNOT NEW"
	}
	return ""
}

// read reads an act. It panics with ErrSyntax if the line is none.
func read(line string) *act {
	demand(len(line) <= api.MaxAct && !strings.Contains(line, "\n"), api.ErrSyntax)
	word, rest, _ := strings.Cut(line, " ")
	arguments := strings.Split(rest, " ")
	form := strings.Split(formOf(word), " ")
	demand(form[0] != "" && len(arguments) == len(form), api.ErrSyntax)
	a := &act{word: word}
	for i, argument := range arguments {
		a.take(form[i], argument)
	}
	return a
}

// take takes an argument for what stands in the form.
func (a *act) take(place, argument string) {
	switch place {
	case "NAME":
		a.name = readName(argument)
	case "OTHER":
		a.other = readName(argument)
	case "NEW":
		a.new = readName(argument)
	case "TEXT":
		demand(argument != "", api.ErrSyntax)
		a.text = argument
	case "LIST":
		a.list = readList(argument)
	case "LISTS":
		a.lists = readLists(argument)
	default:
		a.numbers = append(a.numbers, readNumber(argument))
	}
}

func readName(text string) string {
	demand(len(text) >= 1 && len(text) <= maxName, api.ErrSyntax)
	for _, letter := range []byte(text) {
		demand(letter >= 'a' && letter <= 'z', api.ErrSyntax)
	}
	return text
}

func readNumber(text string) int {
	n, err := strconv.Atoi(text)
	// Atoi also reads other texts of a number, with leading zeros or a plus.
	demand(err == nil && number(n) == text, api.ErrSyntax)
	return n
}

func readList(text string) []int {
	return readEach(text, ",", readNumber)
}

func readLists(text string) [][]int {
	return readEach(text, ";", readList)
}

// readEach reads all items of a list, with the separator between them.
func readEach[T any](text, separator string, readOne func(string) T) []T {
	if text == none {
		return nil
	}
	var items []T
	for _, item := range strings.Split(text, separator) {
		items = append(items, readOne(item))
	}
	return items
}
