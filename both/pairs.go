package both

import (
	"slices"

	"rejoinder/api"
	"rejoinder/canon"
	"rejoinder/guard"
)

// verdict tells, by whether the first and whether the second automaton accepts, whether what is asked for is so.
type verdict func(x, y bool) bool

// together tells the smallest automata of two that go together: states that no trace tells apart, or to which none leads, would make pairs for nothing.
func together(a, b api.Auto) (api.Auto, api.Auto, api.Errno) {
	x, err := canon.Min(a)
	if err != api.OK {
		return api.Auto{}, api.Auto{}, err
	}
	y, err := canon.Min(b)
	if err != api.OK {
		return api.Auto{}, api.Auto{}, err
	}
	if x.Props != y.Props {
		return api.Auto{}, api.Auto{}, api.ErrArg
	}
	return x, y, api.OK
}

// meeting is a pair of states to which one trace leads, and how it was met: from the pair of a lesser number, by a letter.
type meeting struct {
	states [2]int
	from   int
	by     api.Letter
}

// pairs numbers pairs of states in the order in which traces meet them: by shorter ones first, of one length by the lesser.
type pairs struct {
	accept  [2][]bool
	to      [2][][]int // of each state of both where it leads, by rising letters
	numbers map[[2]int]int
	met     []meeting // by number
}

// begin tells the pairs of two automata that go together, of which the beginning alone is met: it has the number 0. It does not stand in the map: where letters lead back to its states these are a pair of their own, for it may be that the empty trace is not told as such a trace is.
func begin(a, b api.Auto) *pairs {
	return &pairs{
		accept:  [2][]bool{a.Accept, b.Accept},
		to:      [2][][]int{rows(a), rows(b)},
		numbers: map[[2]int]int{},
		met:     []meeting{{}},
	}
}

// rows tells of each state where it leads, by rising letters.
func rows(a api.Auto) [][]int {
	var to [][]int
	for _, ref := range a.Guard {
		// Of an automaton that may be no letter fails.
		where, _ := guard.Table(a.Props, a.Nodes, ref)
		to = append(to, where)
	}
	return to
}

// row tells the numbers of the pairs to which the letters lead from a pair, rising. Those that were not met are met now.
func (w *pairs) row(n int) []int {
	here := w.met[n].states
	first, second := w.to[0][here[0]], w.to[1][here[1]]
	where := make([]int, len(first))
	for l := range where {
		where[l] = w.number(meeting{[2]int{first[l], second[l]}, n, api.Letter(l)})
	}
	return where
}

// number tells the number of a pair, which is met now if it is not there yet.
func (w *pairs) number(m meeting) int {
	n, there := w.numbers[m.states]
	if !there {
		n = len(w.met)
		w.numbers[m.states] = n
		w.met = append(w.met, m)
	}
	return n
}

// is tells whether what is asked for is so of the traces that lead to a pair.
func (w *pairs) is(n int, asked verdict) bool {
	here := w.met[n].states
	return asked(w.accept[0][here[0]], w.accept[1][here[1]])
}

// trace tells by which letters a pair was met: the beginning by none.
func (w *pairs) trace(n int) []api.Letter {
	var t []api.Letter
	for ; n > 0; n = w.met[n].from {
		t = append(t, w.met[n].by)
	}
	slices.Reverse(t)
	return t
}

// search tells the first trace, shorter ones first, of one length the least, of which what is asked for is so, and whether there is one.
func search(a, b api.Auto, asked verdict) ([]api.Letter, bool, api.Errno) {
	x, y, err := together(a, b)
	if err != api.OK {
		return nil, false, err
	}
	w := begin(x, y)
	for n := 0; n < len(w.met); n++ {
		if w.is(n, asked) {
			return w.trace(n), true, api.OK
		}
		w.row(n)
	}
	return nil, false, api.OK
}
