package nfa

import "rejoinder/api"

// count tells whether there may be so many propositions.
func count(n int) bool { return 0 <= n && n <= api.MaxProps }

// areStates tells whether all numbers are those of states.
func areStates(a api.Nfa, numbers []int) bool {
	for _, s := range numbers {
		if s < 0 || s >= len(a.States) {
			return false
		}
	}
	return true
}

// mayBeRow tells whether a row of Next has a list for each letter, with states alone.
func mayBeRow(a api.Nfa, row [][]int) bool {
	if len(row) != 1<<a.Props {
		return false
	}
	for _, to := range row {
		if !areStates(a, to) {
			return false
		}
	}
	return true
}
