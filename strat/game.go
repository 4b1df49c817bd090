package strat

import (
	"cmp"
	"slices"

	"rejoinder/api"
	"rejoinder/board"
	"rejoinder/guard"
)

// unranked is the rank of a state from which the system can be kept from winning for ever.
const unranked = -1

// game is an automaton that may be played, with the choices of both sides, rising.
type game struct {
	auto    api.Auto
	split   api.Split
	choices []api.Letter
	answers []api.Letter
}

// newGame makes a game of what board.Check let through.
func newGame(a api.Auto, s api.Split) game {
	return game{auto: a, split: s, choices: board.Moves(s.Env), answers: board.Moves(s.Sys)}
}

// next tells the state to which a round leads. Of an automaton that may be no letter fails.
func (g game) next(q int, round api.Letter) int {
	state, _ := guard.Go(g.auto.Nodes, g.auto.Guard[q], round)
	return state
}

// soon tells a rank as it is compared: as a number without a sign the rank of what is never won is the greatest.
func soon(rank int) uint { return uint(rank) }

// best tells the first of the system's answers that lead to the least rank.
func (g game) best(q int, choice api.Letter, ranks []int) api.Letter {
	sooner := func(one, other api.Letter) int {
		return cmp.Compare(soon(ranks[g.next(q, choice|one)]), soon(ranks[g.next(q, choice|other)]))
	}
	return slices.MinFunc(g.answers, sooner)
}

// replies tells the best answers to all choices of the environment.
func (g game) replies(q int, ranks []int) []api.Letter {
	list := make([]api.Letter, len(g.choices))
	for i, choice := range g.choices {
		list[i] = g.best(q, choice, ranks)
	}
	return list
}

// keeping tells the first choice of the environment that keeps an unranked state so. There is one: if the system could answer each, the state would have a rank.
func (g game) keeping(q int, ranks []int) api.Letter {
	at := slices.IndexFunc(g.choices, func(choice api.Letter) bool { return g.stays(q, choice, ranks) })
	return g.choices[at]
}

// stays tells whether whatever the system answers to a choice leads to an unranked state.
func (g game) stays(q int, choice api.Letter, ranks []int) bool {
	for _, answer := range g.answers {
		if ranks[g.next(q, choice|answer)] != unranked {
			return false
		}
	}
	return true
}

// falls tells whether there is one answer of the system to each choice, by which the rank falls.
func (g game) falls(q int, reply []api.Letter, ranks []int) bool {
	if len(reply) != len(g.choices) {
		return false
	}
	for i, choice := range g.choices {
		if !isChoice(g.split.Sys, reply[i]) {
			return false
		}
		if next := ranks[g.next(q, choice|reply[i])]; next < 0 || next >= ranks[q] {
			return false
		}
	}
	return true
}

// isChoice tells whether a letter has bits of a player's propositions alone.
func isChoice(mask, move api.Letter) bool { return move&^mask == 0 }

// keeps tells whether a strategy keeps what it says.
func (g game) keeps(x api.Strategy) bool {
	states := len(g.auto.Accept)
	if len(x.Ranks) != states || len(x.Reply) != states || len(x.Choice) != states {
		return false
	}
	for q := range states {
		if !g.keepsAt(q, x) {
			return false
		}
	}
	return x.Wins == (x.Ranks[0] != unranked)
}

// keepsAt tells whether it does so in a state.
func (g game) keepsAt(q int, x api.Strategy) bool {
	rank, reply, choice := x.Ranks[q], x.Reply[q], x.Choice[q]
	if g.auto.Accept[q] != (rank == 0) {
		return false
	}
	switch {
	case rank < unranked:
		return false
	case rank == unranked:
		return len(reply) == 0 && isChoice(g.split.Env, choice) && g.stays(q, choice, x.Ranks)
	case rank == 0:
		return len(reply) == 0 && choice == 0
	}
	return choice == 0 && g.falls(q, reply, x.Ranks)
}

// play tells the states of a play by a strategy that keeps what it says.
func (g game) play(x api.Strategy, moves []api.Letter) ([]int, api.Errno) {
	mover := g.split.Sys
	if x.Wins {
		mover = g.split.Env
	}
	states := []int{0}
	q := 0
	for _, move := range moves {
		if g.auto.Accept[q] {
			break
		}
		place, err := board.Number(mover, move)
		if err != api.OK {
			return nil, err
		}
		q = g.next(q, move|said(x, q, place))
		states = append(states, q)
	}
	return states, api.OK
}

// said tells what the strategy's side chooses in a state, the other side's move being that of a place.
func said(x api.Strategy, q, place int) api.Letter {
	if x.Wins {
		return x.Reply[q][place]
	}
	return x.Choice[q]
}
