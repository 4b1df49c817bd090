package nfa

import (
	"rejoinder/api"
	"rejoinder/letter"
)

// mayRun tells the errors of an automaton and a trace.
func mayRun(a api.Nfa, t []api.Letter) api.Errno {
	if err := Check(a); err != api.OK {
		return err
	}
	return letter.Trace(a.Props, t)
}

// places is a set of states: each is there once, however many ways lead to it.
type places map[int]struct{}

// add puts states in.
func (p places) add(states []int) {
	for _, s := range states {
		p[s] = struct{}{}
	}
}

// reach tells the states to which some way leads by a trace. What is ahead of a letter is emptied for what is behind the next one: two sets are enough, however long the trace is.
func reach(a api.Nfa, t []api.Letter) places {
	here, next := places{}, places{}
	here.add(a.Start)
	for _, x := range t {
		for s := range here {
			next.add(a.Next[s][x])
		}
		here, next = next, here
		clear(next)
	}
	return here
}
