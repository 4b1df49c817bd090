package canon

import (
	"rejoinder/api"
	"rejoinder/guard"
	"rejoinder/part"
)

// none is the new number of an old state that has none so far.
const none = -1

// smallest tells the smallest automaton of one that may be. No call below refuses: what they are handed is within their limits, and there are no more nodes than there were, for states that are made one part no letters that were not parted before.
func smallest(a api.Auto) api.Auto {
	var room [api.MaxStates]int
	number := room[:len(a.Accept)]
	first := renumber(a, number)
	m := api.Auto{Props: a.Props}
	s, _ := guard.New(a.Props)
	for _, old := range first {
		ref, _ := s.Add(row(a, old, number))
		m.Accept = append(m.Accept, a.Accept[old])
		m.Guard = append(m.Guard, ref)
	}
	m.Nodes = s.Nodes()
	return m
}

// renumber gives the old states their new numbers, and tells of each new state the old one that was met first. States that are alike have one number, as soon as one of them is met.
func renumber(a api.Auto, number []int) []int {
	for old := range number {
		number[old] = none
	}
	of, _ := part.Classes(a)
	met, _ := part.Reached(a)
	var first []int
	for _, old := range met {
		if number[old] == none {
			spread(number, of, of[old], len(first))
			first = append(first, old)
		}
	}
	return first
}

// spread gives all old states of a class one new number.
func spread(number, of []int, class, n int) {
	for old := range number {
		if of[old] == class {
			number[old] = n
		}
	}
}

// row tells the new states to which the letters lead from an old one, rising. Each has its number: it is reached, as the old one is.
func row(a api.Auto, old int, number []int) []int {
	// Of an automaton that may be no letter fails.
	where, _ := guard.Table(a.Props, a.Nodes, a.Guard[old])
	for l, to := range where {
		where[l] = number[to]
	}
	return where
}
