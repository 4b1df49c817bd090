package guard

import "rejoinder/api"

// made tells whether a store is one that New answered.
func (s *Store) made() bool { return s != nil && s.self == s }

// targets tells whether all numbers are those of states that a list may have.
func targets(where []int) bool {
	for _, state := range where {
		if state < 0 || state > api.MaxTarget {
			return false
		}
	}
	return true
}

// mark answers what takes out again all nodes that are made from now on.
func (s *Store) mark() (undo func()) {
	before := len(s.nodes)
	return func() {
		for _, made := range s.nodes[before:] {
			delete(s.places, made)
		}
		s.nodes = s.nodes[:before]
	}
}

// decide tells the reference of a list of states that hangs on the propositions from p on alone.
func (s *Store) decide(p int, where []int) int {
	if len(where) == 1 {
		return opposite(where[0])
	}
	without, with := halves(where)
	lo := s.decide(p+1, without)
	hi := s.decide(p+1, with)
	if lo == hi {
		return lo
	}
	return s.place(api.Node{P: p, Lo: lo, Hi: hi})
}

// halves tells the states of those letters that have not the first proposition of a list, and of those that have it. It is their least bit: they stand by turns.
func halves(where []int) (without, with []int) {
	for i := 0; i < len(where); i += 2 {
		without = append(without, where[i])
		with = append(with, where[i+1])
	}
	return without, with
}

// place tells where a node stands: behind all others, if it is not there.
func (s *Store) place(x api.Node) int {
	at, there := s.places[x]
	if !there {
		at = len(s.nodes)
		s.nodes = append(s.nodes, x)
		s.places[x] = at
	}
	return at
}
