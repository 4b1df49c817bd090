package part

import "rejoinder/api"

// signature is by what states are told apart in one round: a state's class so far, and those of the states to which the letters lead, rising. There are never more classes than a byte has values.
type signature [1 + 1<<api.MaxProps]uint8

// classes tells each state's class: those that accept apart from those that do not, then round by round those that a letter leads to different classes, until a round parts no more.
func (m moves) classes() []int {
	of, many := m.numbered(m.kind)
	for {
		finer, more := m.numbered(func(s int) signature { return m.signature(of, s) })
		if more == many {
			return of
		}
		of, many = finer, more
	}
}

// numbered tells of each state the number of its signature, and how many there are. A signature is new at its least state: so the numbers are in the order of these.
func (m moves) numbered(sign func(s int) signature) ([]int, int) {
	numbers := map[signature]int{}
	of := make([]int, len(m.to))
	for s := range of {
		x := sign(s)
		n, there := numbers[x]
		if !there {
			n = len(numbers)
			numbers[x] = n
		}
		of[s] = n
	}
	return of, len(numbers)
}

// kind tells a state's signature ahead of all rounds: what the empty trace tells.
func (m moves) kind(s int) signature {
	if m.accept[s] {
		return signature{1}
	}
	return signature{}
}

// signature tells a state's signature by the classes so far. Its own class is in it, so that what was parted stays so.
func (m moves) signature(of []int, s int) signature {
	x := signature{uint8(of[s])}
	for l, next := range m.to[s] {
		x[1+l] = uint8(of[next])
	}
	return x
}
