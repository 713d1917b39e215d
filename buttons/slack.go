package buttons

import "galloon/api"

// Slack returns, for each button and hole, by how much the smallest total with this button in this hole
// is greater than the smallest total of all.
func Slack(costs [][]int) ([][]int, api.Errno) {
	if !isCosts(costs) {
		return nil, api.ErrArg
	}
	return slackOf(costs), api.OK
}

func slackOf(costs [][]int) [][]int {
	smallest := firstOf(costs).total
	var slack [][]int
	for button, row := range costs {
		others := newSearch(without(costs, button))
		var line []int
		for hole, cost := range row {
			rest := others.first(state{taken: 1 << hole})
			line = append(line, cost+rest.total-smallest)
		}
		slack = append(slack, line)
	}
	return slack
}

// Fixed returns, for each button, the hole into which all cheapest assignments put it, and -1 if there are several.
func Fixed(costs [][]int) ([]int, api.Errno) {
	if !isCosts(costs) {
		return nil, api.ErrArg
	}
	var fixed []int
	for _, line := range slackOf(costs) {
		fixed = append(fixed, onlyZero(line))
	}
	return fixed, api.OK
}

// onlyZero returns the position of the only 0, and -1 if there are several.
func onlyZero(line []int) int {
	zero := -1
	for i, number := range line {
		if number != 0 {
			continue
		}
		if zero >= 0 {
			return -1
		}
		zero = i
	}
	return zero
}
