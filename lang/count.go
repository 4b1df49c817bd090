package lang

import "math/bits"

// number is how many traces there are; over, if they are 2^64 or more, whatever n is then.
type number struct {
	n    uint64
	over bool
}

// plus adds two numbers: a sum is over where the carry says so, and where a part of it is.
func (x number) plus(y number) number {
	n, carry := bits.Add64(x.n, y.n, 0)
	return number{n, x.over || y.over || carry != 0}
}

// ended tells of each state how many traces of no letter are accepted from it on.
func (m moves) ended() []number {
	many := make([]number, len(m.accept))
	for s, is := range m.accept {
		if is {
			many[s].n = 1
		}
	}
	return many
}

// longer tells of each state how many traces of one letter more are accepted from it on. It goes from the end to the front, so that what is over is just what counts: going forward, traces that are never accepted would be counted too.
func (m moves) longer(rest []number) []number {
	many := make([]number, len(m.to))
	for s, where := range m.to {
		var sum number
		for _, next := range where {
			sum = sum.plus(rest[next])
		}
		many[s] = sum
	}
	return many
}

// accepted tells how many traces of a length are accepted.
func (m moves) accepted(length int) number {
	many := m.ended()
	for range length {
		many = m.longer(many)
	}
	return many[0]
}
