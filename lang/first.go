package lang

import (
	"slices"

	"rejoinder/api"
)

// met is a state in the queue, and the place in the queue of the state from which it was met.
type met struct {
	state int
	from  int
}

// first tells the first trace in order, of those that are not empty, that leads to a state that accepts (or to one that does not), and whether there is one. Each state is met by the first trace in order that leads there, so that the trace that is asked for is one of these with a letter more. Where that letter leads is looked at ahead of whether it was met: a trace may lead back to the state 0, which the empty one met.
func (m moves) first(accepting bool) ([]api.Letter, bool) {
	queue := []met{{}}
	by := map[int]api.Letter{0: 0} // of the states that were met, by which letter; the first one by none
	for at := 0; at < len(queue); at++ {
		for l, next := range m.to[queue[at].state] {
			if m.accept[next] == accepting {
				return append(trace(queue, by, at), api.Letter(l)), true
			}
			if _, there := by[next]; !there {
				by[next] = api.Letter(l)
				queue = append(queue, met{next, at})
			}
		}
	}
	return nil, false
}

// trace tells by which letters the state at a place was met: the one at the place 0 by none.
func trace(queue []met, by map[int]api.Letter, at int) []api.Letter {
	var t []api.Letter
	for ; at > 0; at = queue[at].from {
		t = append(t, by[queue[at].state])
	}
	slices.Reverse(t)
	return t
}
