package part

import (
	"slices"

	"rejoinder/api"
)

// pair is two states to which one trace leads: the trace of the pair at the place from of the queue, and the letter by.
type pair struct {
	p, q int
	from int
	by   api.Letter
}

// parting tells the trace that parts two states, and whether there is one. Pairs are met by traces that rise, shorter ones first: the first pair of which just one state accepts is met by the trace that is asked for.
func (m moves) parting(p, q int) ([]api.Letter, bool) {
	n := len(m.to)
	met := make([]bool, n*n)
	met[p*n+q] = true
	queue := []pair{{p: p, q: q}}
	for at := 0; at < len(queue); at++ {
		here := queue[at]
		if m.accept[here.p] != m.accept[here.q] {
			return trace(queue, at), true
		}
		for l := range m.to[here.p] {
			next := pair{m.to[here.p][l], m.to[here.q][l], at, api.Letter(l)}
			if !met[next.p*n+next.q] {
				met[next.p*n+next.q] = true
				queue = append(queue, next)
			}
		}
	}
	return nil, false
}

// trace tells by which letters the pair at a place was met: the place 0 by none.
func trace(queue []pair, at int) []api.Letter {
	var t []api.Letter
	for ; at > 0; at = queue[at].from {
		t = append(t, queue[at].by)
	}
	slices.Reverse(t)
	return t
}
