package prog

import (
	"rejoinder/api"
	"rejoinder/sets"
)

// refusal is an error that is thrown on the way, by a panic, and caught at the faces.
type refusal api.Errno

// caught does what may throw a refusal, and tells which error it was.
func caught(work func()) (err api.Errno) {
	defer func() {
		switch thrown := recover().(type) {
		case nil:
		case refusal:
			err = api.Errno(thrown)
		default:
			// No refusal: it would be hidden here.
			panic(thrown)
		}
	}()
	work()
	return api.OK
}

// must tells a list, and throws an error.
func must(l []uint64, err api.Errno) []uint64 {
	if err != api.OK {
		panic(refusal(err))
	}
	return l
}

// both tells what all of two lists asks.
func both(a, b []uint64) []uint64 { return must(sets.And(a, b)) }

// either tells what one of two lists asks.
func either(a, b []uint64) []uint64 { return must(sets.Or(a, b)) }

// when tells what asks nothing, where something is so, and what never is, where it is not.
func when(is bool) []uint64 {
	if is {
		return sets.True()
	}
	return nil
}

// meet tells an obligation's number, the next one if it was not met before.
func (p *Prog) meet(i int) int {
	text := p.text(i)
	n, there := p.numbers[text]
	if !there {
		n = len(p.met)
		if n == api.MaxAtoms {
			panic(refusal(api.ErrObligations))
		}
		p.numbers[text] = n
		p.met = append(p.met, i)
	}
	return n
}

// need tells what a formula needs.
func (p *Prog) need(i int) []uint64 {
	x := p.items[i]
	switch x.Op {
	case api.True:
		return sets.True()
	case api.False:
		return nil
	case api.And:
		return both(p.need(x.A), p.need(x.B))
	case api.Or:
		return either(p.need(x.A), p.need(x.B))
	}
	return []uint64{1 << p.meet(i)}
}

// reading is a letter by which a prog goes on. What a formula needs and what it leaves is worked out once: all that is met on the way is met at the first time, and the list is the same ever after.
type reading struct {
	*Prog
	letter api.Letter
	needed map[int][]uint64
	left   map[int][]uint64
}

// read begins to go on by a letter.
func (p *Prog) read(a api.Letter) reading {
	return reading{Prog: p, letter: a, needed: map[int][]uint64{}, left: map[int][]uint64{}}
}

// once tells a formula's list, worked out if it was not told before.
func once(told map[int][]uint64, i int, work func(i int) []uint64) []uint64 {
	l, there := told[i]
	if !there {
		l = work(i)
		told[i] = l
	}
	return l
}

// needs tells what a formula needs.
func (r reading) needs(i int) []uint64 { return once(r.needed, i, r.need) }

// after tells what a formula leaves.
func (r reading) after(i int) []uint64 { return once(r.left, i, r.leaves) }

// has tells whether a proposition holds.
func (r reading) has(p uint8) bool { return r.letter&(1<<p) != 0 }

// step tells what is left of a list of sets.
func (r reading) step(l []uint64) []uint64 {
	var left []uint64
	for _, set := range l {
		all := sets.True()
		for _, n := range sets.Items(set) {
			all = both(all, r.after(r.met[n]))
		}
		left = either(left, all)
	}
	return left
}

// leaves works out what a formula leaves. Its calls stand in the order in which obligations are to be met: what a call is handed is worked out from the left to the right.
func (r reading) leaves(i int) []uint64 {
	x := r.items[i]
	switch x.Op {
	case api.True, api.More:
		return sets.True()
	case api.False, api.Over:
		return nil
	case api.Prop:
		return when(r.has(x.P))
	case api.Not:
		return when(!r.has(r.items[x.A].P))
	case api.And:
		return both(r.after(x.A), r.after(x.B))
	case api.Or:
		return either(r.after(x.A), r.after(x.B))
	case api.Next:
		return both(r.needs(r.leaf(api.More)), r.needs(x.A))
	case api.Weak:
		return either(r.needs(r.leaf(api.Over)), r.needs(x.A))
	case api.Until:
		return either(r.after(x.B), both(r.after(x.A), r.needs(i)))
	case api.Release:
		return both(r.after(x.B), either(r.after(x.A), r.needs(i)))
	case api.Dia:
		return r.someWay(x.A, r.after(x.B), x.B)
	}
	return r.everyWay(x.A, r.after(x.B), x.B)
}

// fits tells whether the letter satisfies a Step's formula: that one is about letters alone, and leaves nothing to do, or never is.
func (r reading) fits(i int) bool { return sets.Holds(r.after(i), 0) }

// someWay tells what is left by a way of a path: here is what is left, if it ends here, f what is to be satisfied, where it ends behind the letter.
func (r reading) someWay(path int, here []uint64, f int) []uint64 {
	x := r.items[path]
	switch x.Op {
	case api.Step:
		if r.fits(x.A) {
			return r.needs(f)
		}
		return nil
	case api.Test:
		return both(r.after(x.A), here)
	case api.Plus:
		return either(r.someWay(x.A, here, f), r.someWay(x.B, here, f))
	case api.Seq:
		behind := r.someWay(x.B, here, f)
		return r.someWay(x.A, behind, r.along(api.Dia, x.B, f))
	}
	return either(here, r.someWay(x.A, nil, r.along(api.Dia, path, f)))
}

// everyWay tells what is left by all ways of a path, as someWay by one.
func (r reading) everyWay(path int, here []uint64, f int) []uint64 {
	x := r.items[path]
	switch x.Op {
	case api.Step:
		if r.fits(x.A) {
			return r.needs(f)
		}
		return sets.True()
	case api.Test:
		return either(r.after(r.negation(x.A)), here)
	case api.Plus:
		return both(r.everyWay(x.A, here, f), r.everyWay(x.B, here, f))
	case api.Seq:
		behind := r.everyWay(x.B, here, f)
		return r.everyWay(x.A, behind, r.along(api.Box, x.B, f))
	}
	return both(here, r.everyWay(x.A, sets.True(), r.along(api.Box, path, f)))
}
