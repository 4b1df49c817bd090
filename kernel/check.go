package kernel

import "rejoinder/api"

// A kernel formula may have more tokens than term takes, and be nested deeper: its form is looked at here.

// kind is what a part is, or what it must be to be taken.
type kind uint8

const (
	formula kind = iota
	plain        // a formula that is about letters alone
	path
)

// is tells whether a part is of the kind that is asked for.
func (k kind) is(want kind) bool {
	return k == want || k == plain && want == formula
}

// takes tells how many parts a token takes.
func takes(op api.Op) int {
	switch op {
	case api.True, api.False, api.Prop, api.Last, api.More, api.Over:
		return 0
	case api.Not, api.Next, api.Weak, api.Finally, api.Globally, api.Step, api.Test, api.Star:
		return 1
	}
	return 2
}

// inFewWords tells whether all tokens are a kernel formula's by themselves, and each Not stands directly behind a proposition.
func inFewWords(k []api.Tok) bool {
	for i, tok := range k {
		switch tok.Op {
		case api.Prop:
			if tok.P >= api.MaxProps {
				return false
			}
			continue
		case api.Last, api.Finally, api.Globally, api.Imp, api.Iff:
			return false
		case api.Not:
			if i == 0 || k[i-1].Op != api.Prop {
				return false
			}
		}
		if tok.Op > api.Star || tok.P != 0 {
			return false
		}
	}
	return true
}

// put tells what part a token makes of those that it takes, if they are what it is of.
func put(op api.Op, took []kind) (made kind, found bool) {
	switch op {
	case api.True, api.False, api.Prop:
		return plain, true
	case api.More, api.Over:
		return formula, true
	case api.Not:
		return plain, took[0] == plain
	case api.Next, api.Weak:
		return formula, took[0].is(formula)
	case api.And, api.Or:
		if took[0] == plain && took[1] == plain {
			return plain, true
		}
		return formula, took[0].is(formula) && took[1].is(formula)
	case api.Until, api.Release:
		return formula, took[0].is(formula) && took[1].is(formula)
	case api.Dia, api.Box:
		return formula, took[0] == path && took[1].is(formula)
	case api.Step:
		return path, took[0] == plain
	case api.Test:
		return path, took[0].is(formula)
	case api.Star:
		return path, took[0] == path
	}
	return path, took[0] == path && took[1] == path
}

// isFormula tells whether a kernel formula's tokens each find what they take, and make one formula.
func isFormula(k []api.Tok) bool {
	var stack []kind
	for _, tok := range k {
		n := takes(tok.Op)
		if n > len(stack) {
			return false
		}
		rest := stack[:len(stack)-n]
		made, found := put(tok.Op, stack[len(rest):])
		if !found {
			return false
		}
		stack = append(rest, made)
	}
	return len(stack) == 1 && stack[0].is(formula)
}
