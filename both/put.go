package both

import (
	"slices"

	"rejoinder/api"
	"rejoinder/guard"
)

// none is the number of a class that has none so far.
const none = -1

// put tells the canonical automaton of the traces, not the empty one, of which what is asked for is so.
func put(a, b api.Auto, asked verdict) (api.Auto, api.Errno) {
	x, y, err := together(a, b)
	if err != api.OK {
		return api.Auto{}, err
	}
	w := begin(x, y)
	back := w.goThrough()
	accept := make([]bool, len(w.met))
	for n := range accept {
		// The beginning stands for the empty trace.
		accept[n] = n > 0 && w.is(n, asked)
	}
	of, few := classes(back, accept)
	if !few {
		return api.Auto{}, api.ErrStates
	}
	return w.smallest(x.Props, of, accept)
}

// goThrough meets all pairs there are, and tells of each how it is come to.
func (w *pairs) goThrough() [][]way {
	var back [][]way
	for n := 0; n < len(w.met); n++ {
		where := w.row(n)
		for len(back) < len(w.met) {
			back = append(back, nil)
		}
		for l, to := range where {
			back[to] = append(back[to], way{int32(n), api.Letter(l)})
		}
	}
	return back
}

// smallest tells the automaton whose states are the classes, in the order in which the first pair of each was met.
func (w *pairs) smallest(props int, of []int, accept []bool) (api.Auto, api.Errno) {
	number := slices.Repeat([]int{none}, api.MaxStates)
	var first []int
	for n, c := range of {
		if number[c] == none {
			number[c] = len(first)
			first = append(first, n)
		}
	}
	m := api.Auto{Props: props}
	// It refuses no number of propositions that an automaton has.
	s, _ := guard.New(props)
	for _, n := range first {
		where := w.row(n)
		for l, to := range where {
			where[l] = number[of[to]]
		}
		ref, err := s.Add(where)
		if err != api.OK {
			return api.Auto{}, err
		}
		m.Accept = append(m.Accept, accept[n])
		m.Guard = append(m.Guard, ref)
	}
	m.Nodes = s.Nodes()
	return m, api.OK
}
