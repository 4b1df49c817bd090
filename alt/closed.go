package alt

import (
	"rejoinder/api"
	"rejoinder/letter"
	"rejoinder/prog"
	"rejoinder/sets"
)

// letters is how many letters there are of as many propositions as may be.
const letters = 1 << api.MaxProps

// closed is a closed prog. What each obligation leaves is kept from when it was gone through, for going backward asks it again at each position.
type closed struct {
	*prog.Prog
	left [letters][][]uint64 // by each letter of the trace what each obligation leaves, by number
}

// check tells the errors that go ahead of the prog's own. A formula's is asked of prog.Ends, for New may answer ErrObligations too, which comes behind the trace's.
func check(k []api.Tok, t []api.Letter) api.Errno {
	if _, err := prog.Ends(k); err != api.OK {
		return err
	}
	return letter.Trace(api.MaxProps, t)
}

// newClosed tells the closed prog of a kernel formula and a trace.
func newClosed(k []api.Tok, t []api.Letter) (*closed, api.Errno) {
	if err := check(k, t); err != api.OK {
		return nil, err
	}
	p, err := prog.New(k)
	if err != api.OK {
		return nil, err
	}
	c := &closed{Prog: p}
	if err := c.goThrough(lettersOf(t)); err != api.OK {
		return nil, err
	}
	return c, api.OK
}

// lettersOf tells of each letter whether it stands in a trace.
func lettersOf(t []api.Letter) (stands [letters]bool) {
	for _, x := range t {
		stands[x] = true
	}
	return stands
}

// alone tells the list of the set that has a number alone.
func alone(n int) []uint64 { return []uint64{1 << n} }

// goThrough steps each obligation by each letter that stands in the trace, what is met then likewise. Step knows how many were met: it answers ErrArg of the first number that none has, and of no other here.
func (c *closed) goThrough(stands [letters]bool) api.Errno {
	for n := range api.MaxAtoms {
		for x, is := range stands {
			if !is {
				continue
			}
			left, err := c.Step(alone(n), api.Letter(x))
			if err == api.ErrArg {
				return api.OK
			}
			if err != api.OK {
				return err
			}
			c.left[x] = append(c.left[x], left)
		}
	}
	return api.OK
}

// forward tells what is to do ahead of each letter, and at the end.
func (c *closed) forward(t []api.Letter) ([][]uint64, api.Errno) {
	lists := make([][]uint64, len(t)+1)
	lists[0] = c.Start()
	for i, x := range t {
		left, err := c.Step(lists[i], x)
		if err != api.OK {
			return nil, err
		}
		lists[i+1] = left
	}
	return lists, api.OK
}

// atEnd tells the set that is satisfied at the end. It is asked of Final, for prog.Ends refuses an obligation that has more tokens than a kernel formula; of a number that no obligation has Final is false.
func (c *closed) atEnd() uint64 {
	var held uint64
	for n := range api.MaxAtoms {
		if c.Final(alone(n)) {
			held |= 1 << n
		}
	}
	return held
}

// ahead tells the set that is satisfied at a position with a letter, out of the one that is at the next place.
func (c *closed) ahead(x api.Letter, next uint64) uint64 {
	var held uint64
	for n, left := range c.left[x] {
		if sets.Holds(left, next) {
			held |= 1 << n
		}
	}
	return held
}

// backward tells the set that is satisfied at each position, and at the end.
func (c *closed) backward(t []api.Letter) []uint64 {
	held := make([]uint64, len(t)+1)
	held[len(t)] = c.atEnd()
	for i := len(t) - 1; i >= 0; i-- {
		held[i] = c.ahead(t[i], held[i+1])
	}
	return held
}
