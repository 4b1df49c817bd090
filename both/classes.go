package both

import "rejoinder/api"

// way is how a state is come to: from which one, by which letter. There are millions of them where two great automata meet, so that it is a small one.
type way struct {
	from int32
	by   api.Letter
}

// parting is states parted into classes, finer and finer. A class waits, if others are yet to be parted by which letters lead into it.
type parting struct {
	back  [][]way // of each state how it is come to
	of    []int   // of each state its class
	in    [][]int // of each class its states
	waits []bool  // of each class
	queue []int   // the classes that wait
}

// classes tells of each state its class: states that are alike are in one, others are not. It tells none and false, if there are more classes than an automaton may have states: so there are few rounds, however many states there are.
func classes(back [][]way, accept []bool) ([]int, bool) {
	p := &parting{back: back, of: make([]int, len(accept)), in: [][]int{nil}, waits: []bool{false}}
	var accepting []int
	for s, is := range accept {
		p.in[0] = append(p.in[0], s)
		if is {
			accepting = append(accepting, s)
		}
	}
	p.part(accepting)
	for len(p.queue) > 0 && len(p.in) <= api.MaxStates {
		last := len(p.queue) - 1
		c := p.queue[last]
		p.queue = p.queue[:last]
		p.waits[c] = false
		p.by(p.in[c])
	}
	if len(p.in) > api.MaxStates {
		return nil, false
	}
	return p.of, true
}

// by parts all classes by which letters lead into some states. Which states these are is told ahead of all parting, for they may be parted themselves.
func (p *parting) by(states []int) {
	var from [1 << api.MaxProps][]int
	for _, s := range states {
		for _, w := range p.back[s] {
			from[w.by] = append(from[w.by], int(w.from))
		}
	}
	for _, some := range from {
		p.part(some)
		if len(p.in) > api.MaxStates {
			return
		}
	}
}

// part parts each class of which some states, but not all, are among those that are handed in.
func (p *parting) part(states []int) {
	many := make([]int, len(p.in))
	for _, s := range states {
		many[p.of[s]]++
	}
	for c, n := range many {
		if 0 < n && n < len(p.in[c]) {
			p.split(c, states)
		}
	}
}

// split takes those states of a class that are handed in out of it, into a class of their own. By the lesser one of both the others are parted as by the greater one: where it did not wait it need not wait now.
func (p *parting) split(c int, states []int) {
	n := len(p.in)
	for _, s := range states {
		if p.of[s] == c {
			p.of[s] = n
		}
	}
	var stay, leave []int
	for _, s := range p.in[c] {
		if p.of[s] == c {
			stay = append(stay, s)
		} else {
			leave = append(leave, s)
		}
	}
	p.in[c] = stay
	p.in = append(p.in, leave)
	p.waits = append(p.waits, false)
	if p.waits[c] || len(leave) <= len(stay) {
		p.wait(n)
	} else {
		p.wait(c)
	}
}

// wait has a class wait that does not.
func (p *parting) wait(c int) {
	p.waits[c] = true
	p.queue = append(p.queue, c)
}
