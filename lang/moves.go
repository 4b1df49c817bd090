package lang

import (
	"slices"

	"rejoinder/api"
	"rejoinder/guard"
)

// moves is an automaton whose guards are gone through once for all: each letter is asked again and again.
type moves struct {
	accept []bool
	to     [][]int // of each state where it leads, by rising letters
}

// lead tells where an automaton leads, if it may be.
func lead(a api.Auto) (moves, api.Errno) {
	if err := guard.Check(a); err != api.OK {
		return moves{}, err
	}
	m := moves{accept: a.Accept}
	for _, ref := range a.Guard {
		// Of an automaton that may be no letter fails.
		where, _ := guard.Table(a.Props, a.Nodes, ref)
		m.to = append(m.to, where)
	}
	return m, api.OK
}

// lengths tells of each state the length of the shortest trace that leads there, -1 where none does.
func (m moves) lengths() []int {
	length := slices.Repeat([]int{-1}, len(m.to))
	length[0] = 0
	queue := []int{0}
	for at := 0; at < len(queue); at++ {
		here := queue[at]
		for _, next := range m.to[here] {
			if length[next] < 0 {
				length[next] = length[here] + 1
				queue = append(queue, next)
			}
		}
	}
	return length
}

// live tells of each state whether an accepting one is reached from it: from these it goes backward.
func (m moves) live() []bool {
	from := m.backward()
	live := slices.Clone(m.accept)
	var queue []int
	for s, is := range live {
		if is {
			queue = append(queue, s)
		}
	}
	for at := 0; at < len(queue); at++ {
		for _, s := range from[queue[at]] {
			if !live[s] {
				live[s] = true
				queue = append(queue, s)
			}
		}
	}
	return live
}

// backward tells of each state those from which a letter leads there, one for each such letter.
func (m moves) backward() [][]int {
	from := make([][]int, len(m.to))
	for s, where := range m.to {
		for _, next := range where {
			from[next] = append(from[next], s)
		}
	}
	return from
}
