package det

import (
	"strconv"

	"rejoinder/api"
	"rejoinder/guard"
	"rejoinder/kernel"
	"rejoinder/prog"
)

// making is an automaton on the way.
type making struct {
	props   int
	asked   int // the bits of the propositions that stand in the formula
	prog    *prog.Prog
	store   *guard.Store
	lists   [][]uint64     // of each state what is to do
	numbers map[string]int // the states' numbers, by their lists as texts
	guards  []int
}

// construct makes all states, and their guards.
func construct(n int, k []api.Tok) (*making, api.Errno) {
	m, err := begin(n, k)
	if err != api.OK {
		return nil, err
	}
	if err := m.goThrough(); err != api.OK {
		return nil, err
	}
	return m, api.OK
}

// begin makes the state 0, if nothing is refused ahead of it. The store is made first, for what it refuses is n alone; New comes last, for it may answer ErrObligations, which the propositions' error goes ahead of.
func begin(n int, k []api.Tok) (*making, api.Errno) {
	store, err := guard.New(n)
	if err != api.OK {
		return nil, err
	}
	if err := kernel.Check(k); err != api.OK {
		return nil, err
	}
	asked := bits(k)
	if asked>>n != 0 {
		return nil, api.ErrArg
	}
	p, err := prog.New(k)
	if err != api.OK {
		return nil, err
	}
	m := &making{props: n, asked: asked, prog: p, store: store, numbers: map[string]int{}}
	_, err = m.state(p.Start())
	return m, err
}

// bits tells the bits of the propositions that stand in a formula.
func bits(k []api.Tok) int {
	asked := 0
	for _, tok := range k {
		if tok.Op == api.Prop {
			asked |= 1 << tok.P
		}
	}
	return asked
}

// goThrough makes each state's guard, those of the states that are met on the way likewise.
func (m *making) goThrough() api.Errno {
	for s := 0; s < len(m.lists); s++ {
		where, err := m.row(m.lists[s])
		if err != api.OK {
			return err
		}
		ref, err := m.store.Add(where)
		if err != api.OK {
			return err
		}
		m.guards = append(m.guards, ref)
	}
	return api.OK
}

// row tells to which state each letter leads from the state of a list. A Step hangs on the formula's propositions alone (P11.4): a letter by which others hold too leads where it does without them, and that one came ahead and has met all there is. Steps may be slow: this saves most of them where few propositions are asked.
func (m *making) row(list []uint64) ([]int, api.Errno) {
	where := make([]int, 1<<m.props)
	for x := range where {
		if alike := x & m.asked; alike != x {
			where[x] = where[alike]
			continue
		}
		left, err := m.prog.Step(list, api.Letter(x))
		if err != api.OK {
			return nil, err
		}
		where[x], err = m.state(left)
		if err != api.OK {
			return nil, err
		}
	}
	return where, api.OK
}

// state tells the state of a list, which is met now if it is not there yet.
func (m *making) state(list []uint64) (int, api.Errno) {
	name := text(list)
	if s, there := m.numbers[name]; there {
		return s, api.OK
	}
	s := len(m.lists)
	if s == api.MaxStates {
		return 0, api.ErrStates
	}
	m.numbers[name] = s
	m.lists = append(m.lists, list)
	return s, api.OK
}

// text tells a list as a text: no two lists have the same.
func text(list []uint64) string {
	var t []byte
	for _, set := range list {
		t = strconv.AppendUint(t, set, 10)
		t = append(t, ' ')
	}
	return string(t)
}

// automaton tells what was made.
func (m *making) automaton() api.Auto {
	accept := make([]bool, len(m.lists))
	for s, list := range m.lists {
		accept[s] = m.prog.Final(list)
	}
	return api.Auto{Props: m.props, Accept: accept, Guard: m.guards, Nodes: m.store.Nodes()}
}
