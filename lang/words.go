package lang

import (
	"slices"

	"rejoinder/api"
)

const (
	longest  = 3    // letters of a trace that Words may be asked for
	maxWords = 4096 // traces that Words tells
)

// beginning is a trace's first letters, and the state to which they lead.
type beginning struct {
	letters []api.Letter
	state   int
}

// words tells the accepted traces of at most so many letters, in order. How many there are is told ahead of making any.
func (m moves) words(most int) ([][]api.Letter, api.Errno) {
	rests := [][]number{m.ended()}
	for at := range most {
		rests = append(rests, m.longer(rests[at]))
	}
	var all number
	for _, many := range rests {
		all = all.plus(many[0])
	}
	if all.over || all.n > maxWords {
		return nil, api.ErrOver
	}
	var list [][]api.Letter
	for length := range rests {
		list = append(list, m.spell(rests[:length+1])...)
	}
	return list, api.OK
}

// spell tells the accepted traces of one length, rising. It is handed how many traces of each length, from none up to this one, are accepted from each state on: so no beginning is kept that leads to none, and there are never more of them than traces.
func (m moves) spell(rests [][]number) [][]api.Letter {
	length := len(rests) - 1
	if rests[length][0].n == 0 {
		return nil
	}
	begun := []beginning{{}}
	for left := length - 1; left >= 0; left-- {
		begun = m.extend(begun, rests[left])
	}
	var list [][]api.Letter
	for _, b := range begun {
		list = append(list, b.letters)
	}
	return list
}

// extend tells the beginnings with a letter more, each in memory of its own, from which the rest of a trace that is accepted may go on.
func (m moves) extend(begun []beginning, rest []number) []beginning {
	var longer []beginning
	for _, b := range begun {
		for l, next := range m.to[b.state] {
			if rest[next].n != 0 {
				longer = append(longer, beginning{slices.Concat(b.letters, []api.Letter{api.Letter(l)}), next})
			}
		}
	}
	return longer
}
