package watch

import (
	"slices"

	"rejoinder/api"
	"rejoinder/guard"
)

// unreached stands for a number of letters where no trace leads there.
const unreached = -1

// known is what is worked out of an automaton, once. None of it is changed behind that: watches that were forked hold the same.
type known struct {
	props  int
	guards []int
	nodes  []api.Node
	told   []api.Verdict // of each state
	off    []int         // of each state how far off it is, or unreached
}

// know works out what there is to know of an automaton, if it may be. It keeps nothing of the automaton's own memory.
func know(a api.Auto) (known, api.Errno) {
	if err := guard.Check(a); err != api.OK {
		return known{}, err
	}
	from := backward(a)
	off := soonest(from, a.Accept, true)
	fails := soonest(from, a.Accept, false)
	told := make([]api.Verdict, len(a.Accept))
	for s := range told {
		told[s] = verdict(off[s], fails[s])
	}
	return known{a.Props, slices.Clone(a.Guard), slices.Clone(a.Nodes), told, off}, api.OK
}

// backward tells of each state those from which a letter leads there, one for each such letter.
func backward(a api.Auto) [][]int {
	from := make([][]int, len(a.Guard))
	for s, ref := range a.Guard {
		// Of an automaton that may be no letter fails.
		where, _ := guard.Table(a.Props, a.Nodes, ref)
		for _, to := range where {
			from[to] = append(from[to], s)
		}
	}
	return from
}

// soonest tells of each state by how few letters one that accepts, or one that does not, is reached from it: from these it goes backward.
func soonest(from [][]int, accept []bool, accepting bool) []int {
	few := slices.Repeat([]int{unreached}, len(accept))
	var queue []int
	for s, is := range accept {
		if is == accepting {
			few[s] = 0
			queue = append(queue, s)
		}
	}
	for at := 0; at < len(queue); at++ {
		here := queue[at]
		for _, s := range from[here] {
			if few[s] == unreached {
				few[s] = few[here] + 1
				queue = append(queue, s)
			}
		}
	}
	return few
}

// verdict tells what is told of a state, by how few letters one that accepts is reached from it, and one that does not.
func verdict(accepts, fails int) api.Verdict {
	switch {
	case accepts == unreached:
		return api.Never
	case fails == unreached:
		return api.Always
	case accepts == 0:
		return api.Yes
	}
	return api.No
}

// next tells the state to which a letter leads.
func (k known) next(state int, l api.Letter) int {
	to, _ := guard.Go(k.nodes, k.guards[state], l)
	return to
}
