package nfa

import (
	"slices"

	"rejoinder/api"
	"rejoinder/prog"
)

// mayMake tells the errors that go ahead of the prog's own. The formula's is asked of prog.Ends, which has no other, for New may answer ErrObligations too, which comes behind the propositions' error.
func mayMake(n int, k []api.Tok) api.Errno {
	if !count(n) {
		return api.ErrArg
	}
	if _, err := prog.Ends(k); err != api.OK {
		return err
	}
	if bits(k)>>n != 0 {
		return api.ErrArg
	}
	return api.OK
}

// making is an automaton on the way.
type making struct {
	prog    *prog.Prog
	made    api.Nfa
	numbers map[uint64]int // the states' numbers, by their sets
	asked   int            // the bits of the propositions that stand in the formula
}

// bits tells the bits of the propositions that stand in a formula.
func bits(k []api.Tok) int {
	asked := 0
	for _, tok := range k {
		if tok.Op == api.Prop {
			asked |= 1 << tok.P
		}
	}
	return asked
}

// begin meets the states of what is to do at the beginning.
func begin(n int, k []api.Tok) (*making, api.Errno) {
	p, err := prog.New(k)
	if err != api.OK {
		return nil, err
	}
	m := &making{prog: p, made: api.Nfa{Props: n}, numbers: map[uint64]int{}, asked: bits(k)}
	m.made.Start, err = m.states(p.Start())
	return m, err
}

// goThrough tells where each letter leads from each state, those that are met on the way likewise.
func (m *making) goThrough() api.Errno {
	for s := 0; s < len(m.made.States); s++ {
		row, err := m.row(m.made.States[s])
		if err != api.OK {
			return err
		}
		m.made.Next = append(m.made.Next, row)
	}
	return api.OK
}

// row tells to which states each letter leads from the state of a set. A Step hangs on the formula's propositions alone (P11.4): a letter by which others hold too leads where it does without them, and that one came ahead and has met all there is. Steps may be slow: this saves most of them where few propositions are asked.
func (m *making) row(set uint64) ([][]int, api.Errno) {
	letters := 1 << m.made.Props
	row := make([][]int, letters)
	for x := range letters {
		if alike := x & m.asked; alike != x {
			row[x] = slices.Clone(row[alike])
			continue
		}
		left, err := m.prog.Step([]uint64{set}, api.Letter(x))
		if err != api.OK {
			return nil, err
		}
		row[x], err = m.states(left)
		if err != api.OK {
			return nil, err
		}
	}
	return row, api.OK
}

// states tells the states of the sets of a list, as they stand.
func (m *making) states(l []uint64) ([]int, api.Errno) {
	states := make([]int, len(l))
	for i, set := range l {
		s, err := m.state(set)
		if err != api.OK {
			return nil, err
		}
		states[i] = s
	}
	return states, api.OK
}

// state tells the state of a set, which is met now if it is not there yet.
func (m *making) state(set uint64) (int, api.Errno) {
	if s, there := m.numbers[set]; there {
		return s, api.OK
	}
	s := len(m.made.States)
	if s == api.MaxStates {
		return 0, api.ErrStates
	}
	m.numbers[set] = s
	m.made.States = append(m.made.States, set)
	m.made.Final = append(m.made.Final, m.prog.Final([]uint64{set}))
	return s, api.OK
}
