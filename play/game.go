package play

import (
	"slices"

	"rejoinder/api"
	"rejoinder/board"
)

// round is what was played once.
type round struct {
	letter api.Letter // both choices together
	state  int        // the one to which it led
}

// game is an automaton, a split of its propositions, and a strategy that keeps what it says of both.
type game struct {
	auto  api.Auto
	split api.Split
	plan  api.Strategy
}

// newGame makes a game of what strat.Check let through. Its lists are its own: those that were handed in may be written over later.
func newGame(a api.Auto, s api.Split, x api.Strategy) game {
	a.Accept = slices.Clone(a.Accept)
	a.Guard = slices.Clone(a.Guard)
	a.Nodes = slices.Clone(a.Nodes)
	x.Ranks = slices.Clone(x.Ranks)
	x.Choice = slices.Clone(x.Choice)
	x.Reply = slices.Clone(x.Reply)
	for q, list := range x.Reply {
		x.Reply[q] = slices.Clone(list)
	}
	return game{auto: a, split: s, plan: x}
}

// mover tells the propositions of the side whose moves come raw.
func (g game) mover() api.Letter {
	if g.plan.Wins {
		return g.split.Env
	}
	return g.split.Sys
}

// play tells the round that a move of the mover's makes in a state that does not accept.
func (g game) play(q int, move api.Letter) round {
	letter := move | g.said(q, move)
	return round{letter: letter, state: g.next(q, letter)}
}

// said tells what the strategy's side chooses in a state. The environment's choice does not hang on the move, which comes behind it.
func (g game) said(q int, move api.Letter) api.Letter {
	if !g.plan.Wins {
		return g.plan.Choice[q]
	}
	return g.plan.Reply[q][place(g.split.Env, move)]
}

// next tells the state to which a round's letter leads. Of what strat.Check let through board.Goes refuses no state.
func (g game) next(q int, letter api.Letter) int {
	env, sys := g.split.Env, g.split.Sys
	rows, _ := board.Goes(g.auto, g.split, q)
	return rows[place(env, letter&env)][place(sys, letter&sys)]
}

// place tells which of a side's choices one is. It is one: no other letter is asked for.
func place(side, choice api.Letter) int {
	at, _ := board.Number(side, choice)
	return at
}
