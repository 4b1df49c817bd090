package part

import (
	"rejoinder/api"
	"rejoinder/guard"
)

// moves is an automaton whose guards are gone through once for all: each letter is asked again and again.
type moves struct {
	accept []bool
	to     [][]int // of each state where it leads, by rising letters
}

// lead tells where an automaton leads, if it may be, and if all states that are asked for are among its own.
func lead(a api.Auto, states ...int) (moves, api.Errno) {
	if err := guard.Check(a); err != api.OK {
		return moves{}, err
	}
	for _, s := range states {
		if s < 0 || s >= len(a.Accept) {
			return moves{}, api.ErrArg
		}
	}
	m := moves{accept: a.Accept}
	for _, ref := range a.Guard {
		// Of an automaton that may be no letter fails.
		where, _ := guard.Table(a.Props, a.Nodes, ref)
		m.to = append(m.to, where)
	}
	return m, api.OK
}

// reached tells the states to which traces lead from the state 0, as they are met.
func (m moves) reached() []int {
	met := make([]bool, len(m.to))
	met[0] = true
	queue := []int{0}
	for at := 0; at < len(queue); at++ {
		for _, s := range m.to[queue[at]] {
			if !met[s] {
				met[s] = true
				queue = append(queue, s)
			}
		}
	}
	return queue
}
