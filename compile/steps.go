package compile

import (
	"slices"

	"rejoinder/api"
	"rejoinder/canon"
	"rejoinder/det"
	"rejoinder/kernel"
	"rejoinder/term"
)

// longest is how many tokens a kernel formula may have, so that there is room for More and And about it.
const longest = api.MaxKernel - 2

// formula is a formula on the way to its automaton.
type formula struct {
	props  int
	tokens []api.Tok
	kernel []api.Tok // its kernel formula, as a whole
	made   api.Auto
}

// step leads a formula on, or refuses it.
type step func(f formula) (formula, api.Errno)

// through goes through steps, until one refuses, and tells what was made. The steps stand in the order of the errors: each may trust in what those ahead of it have refused.
func through(f formula, steps ...step) (api.Auto, api.Errno) {
	for _, next := range steps {
		var err api.Errno
		if f, err = next(f); err != api.OK {
			return api.Auto{}, err
		}
	}
	return f.made, api.OK
}

// count refuses too many propositions, or too few.
func count(f formula) (formula, api.Errno) {
	if f.props < 0 || f.props > api.MaxProps {
		return f, api.ErrArg
	}
	return f, api.OK
}

// check refuses tokens that are no formula's.
func check(f formula) (formula, api.Errno) {
	return f, term.Check(f.tokens)
}

// fit refuses a formula that speaks of a proposition that there is not.
func fit(f formula) (formula, api.Errno) {
	asked, err := term.Props(f.tokens)
	if err == api.OK && asked>>f.props != 0 {
		err = api.ErrArg
	}
	return f, err
}

// shorten says a formula in few words. More stands ahead of it, for the empty trace satisfies no formula, but at its end a formula may well be satisfied.
func shorten(f formula) (formula, api.Errno) {
	k, err := kernel.Of(f.tokens)
	if err != api.OK {
		return f, err
	}
	if len(k) > longest {
		return f, api.ErrLong
	}
	f.kernel = slices.Concat([]api.Tok{{Op: api.More}}, k, []api.Tok{{Op: api.And}})
	return f, api.OK
}

// construct makes an automaton of the kernel formula.
func construct(f formula) (formula, api.Errno) {
	var err api.Errno
	f.made, err = det.Of(f.props, f.kernel)
	return f, err
}

// raw goes all of Raw's way.
func raw(f formula) (formula, api.Errno) {
	var err api.Errno
	f.made, err = Raw(f.props, f.tokens)
	return f, err
}

// smallest makes of the automaton the smallest one.
func smallest(f formula) (formula, api.Errno) {
	var err api.Errno
	f.made, err = canon.Min(f.made)
	return f, err
}
