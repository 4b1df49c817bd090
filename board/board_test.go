package board_test

import (
	"math"
	"math/rand"
	"slices"
	"strconv"
	"strings"
	"sync"
	"testing"

	"rejoinder/api"
	"rejoinder/board"
	"rejoinder/canon"
	"rejoinder/compile"
	"rejoinder/guard"
	"rejoinder/letter"
)

// first tells the automaton of the chapter's examples: p at the first position, over p and q.
func first() api.Auto { return auto(2, "001", "0 -2 -3", "0 -2 -3") }

// until tells the automaton of p U q.
func until() api.Auto { return auto(2, "001", "2 -2 -3", "1 -2 -3; 1 -1 -3; 0 0 1") }

// checks asks Check, which must tell so.
func checks(t *testing.T, a api.Auto, s api.Split, must api.Errno) {
	t.Helper()
	if err := board.Check(a, s); err != must {
		t.Errorf("Check(%.300s, %v) = %d, not %d", toldAuto(a), s, err, must)
	}
}

// moves asks Moves, which must tell so.
func moves(t *testing.T, mask api.Letter, must string) {
	t.Helper()
	if l := board.Moves(mask); told(l) != must {
		t.Errorf("Moves(%d) = %s, not %s", mask, told(l), must)
	}
}

// number asks Number, which must tell so.
func number(t *testing.T, mask, move api.Letter, must int) {
	t.Helper()
	if n, err := board.Number(mask, move); n != must || err != api.OK {
		t.Errorf("Number(%d, %d) = %d %d, not %d", mask, move, n, err, must)
	}
}

// noNumber asks Number, which must be refused.
func noNumber(t *testing.T, mask, move api.Letter) {
	t.Helper()
	if n, err := board.Number(mask, move); n != 0 || err != api.ErrMove {
		t.Errorf("Number(%d, %d) = %d %d", mask, move, n, err)
	}
}

// parts asks Of, which must tell so.
func parts(t *testing.T, names, env []string, must api.Split) {
	t.Helper()
	if s, err := board.Of(names, env); s != must || err != api.OK {
		t.Errorf("Of(%v, %v) = %v %d, not %v", names, env, s, err, must)
	}
}

// noParts asks Of, which must be refused, as letter.Of is.
func noParts(t *testing.T, names, env []string, must api.Errno) {
	t.Helper()
	if s, err := board.Of(names, env); s != (api.Split{}) || err != must {
		t.Errorf("Of(%v, %v) = %v %d, not %d", names, env, s, err, must)
	}
	if _, err := letter.Of(names, env); err != must {
		t.Errorf("letter.Of(%v, %v) = %d, not %d", names, env, err, must)
	}
}

// leadsTo asks Goes, which must tell so.
func leadsTo(t *testing.T, a api.Auto, s api.Split, q int, must string) {
	t.Helper()
	if rows, err := board.Goes(a, s, q); toldRows(rows) != must || err != api.OK {
		t.Errorf("Goes(%.300s, %v, %d) = %.300s %d, not %.300s", toldAuto(a), s, q, toldRows(rows), err, must)
	}
}

// noGoes asks Goes, which must be refused.
func noGoes(t *testing.T, a api.Auto, s api.Split, q int, must api.Errno) {
	t.Helper()
	if rows, err := board.Goes(a, s, q); rows != nil || err != must {
		t.Errorf("Goes(%.300s, %v, %d) = %.300s %d, not %d", toldAuto(a), s, q, toldRows(rows), err, must)
	}
}

// asTheModelSays asks where all states lead.
func asTheModelSays(t *testing.T, a api.Auto, s api.Split) {
	t.Helper()
	checks(t, a, s, api.OK)
	for q := range a.Accept {
		leadsTo(t, a, s, q, toldRows(goes(a, s, q)))
	}
	if t.Failed() {
		t.FailNow()
	}
}

// oddSplits tells splits of p and q, such as leave out or have twice, and such as have a bit that is none of theirs.
func oddSplits() []api.Split {
	return []api.Split{{Env: 1, Sys: 2}, {Env: 3}, {}, {Env: 1}, {Sys: 2}, {Env: 3, Sys: 3}, {Env: 1, Sys: 3}, {Env: 1, Sys: 6}, {Env: 129, Sys: 2}, {Env: 255}, {Sys: 255}, {Env: 255, Sys: 255}}
}

// noAuto asks all of an automaton that may not be played, whatever the split and the state are.
func noAuto(t *testing.T, a api.Auto) {
	t.Helper()
	for _, s := range oddSplits() {
		checks(t, a, s, api.ErrAuto)
		for _, q := range []int{0, 1, len(a.Accept) - 1, len(a.Accept), -1, 256, math.MinInt, math.MaxInt} {
			noGoes(t, a, s, q, api.ErrAuto)
		}
	}
}

// wrong asks all of an automaton that may not be.
func wrong(t *testing.T, a api.Auto) {
	t.Helper()
	if guard.Check(a) != api.ErrAuto {
		t.Errorf("%.300s may be", toldAuto(a))
	}
	noAuto(t, a)
}

// compiled tells the automaton of a formula's text.
func compiled(t *testing.T, names []string, text string) api.Auto {
	t.Helper()
	a, fault := compile.Text(names, text)
	if fault.Err != api.OK {
		t.Fatal(text, fault)
	}
	return a
}

// The chapter's examples

func TestExamples(t *testing.T) {
	a, err := compile.Tokens(2, []api.Tok{{Op: api.Prop}})
	if !canon.Same(a, first()) || err != api.OK {
		t.Fatal(toldAuto(a), err)
	}
	moves(t, 5, "0 1 4 5")
	moves(t, 0, "0")
	number(t, 5, 4, 2)
	noNumber(t, 5, 2)
	parts(t, []string{"p", "q"}, []string{"q"}, api.Split{Env: 2, Sys: 1})
	noParts(t, []string{"p", "q"}, []string{"r"}, api.ErrMissing)
	checks(t, a, api.Split{Env: 1, Sys: 2}, api.OK)
	checks(t, a, api.Split{Env: 1, Sys: 3}, api.ErrSplit)
	checks(t, a, api.Split{Env: 1, Sys: 0}, api.ErrSplit)
	leadsTo(t, a, api.Split{Env: 1, Sys: 2}, 0, "1 1; 2 2")
}

// P22.1, and P22.3: automata that may not be

// sized tells an automaton of so many states without nodes.
func sized(states, guards int) api.Auto {
	a := api.Auto{Props: 2, Accept: make([]bool, states), Guard: make([]int, guards)}
	for i := range a.Guard {
		a.Guard[i] = -1 - i%max(states, 1)
	}
	return a
}

// nodesOf tells so many nodes of the proposition 0, each another one, of 65 states or more.
func nodesOf(many int) []api.Node {
	var l []api.Node
	for i := range many {
		lo, hi := i/64, i%64
		if hi >= lo {
			hi++
		}
		l = append(l, api.Node{P: 0, Lo: -1 - lo, Hi: -1 - hi})
	}
	return l
}

func TestAutomataThatMayNotBe(t *testing.T) {
	wrong(t, api.Auto{})
	wrong(t, api.Auto{Props: 2})
	// Propositions.
	for _, n := range []int{-1, 9, 64, math.MinInt, math.MaxInt} {
		wrong(t, auto(n, "0", "-1", ""))
		wrong(t, auto(n, "01", "0 0", "0 -1 -2"))
	}
	// States and guards.
	for _, c := range [][2]int{{0, 0}, {0, 1}, {1, 0}, {1, 2}, {2, 1}, {255, 256}, {256, 255}, {256, 257}, {257, 257}, {257, 256}} {
		wrong(t, sized(c[0], c[1]))
	}
	checks(t, sized(256, 256), api.Split{Env: 1, Sys: 2}, api.OK)
	// Nodes.
	a := sized(80, 80)
	a.Nodes = nodesOf(4097)
	wrong(t, a)
	a.Nodes = nodesOf(4096)
	checks(t, a, api.Split{Env: 1, Sys: 2}, api.OK)
	// A node's proposition, and its sides.
	for _, x := range []string{"2 -1 -2", "8 -1 -2", "-1 -1 -2", "0 -1 -1", "0 -4 -1", "0 -1 -4", "0 0 -1", "0 -1 1"} {
		wrong(t, auto(2, "001", "0 0 0", x))
		wrong(t, auto(2, "001", "-1 -1 -1", x))
	}
	wrong(t, auto(2, "001", "1 1 1", "1 -1 -2; 1 -1 0"))
	wrong(t, auto(2, "001", "1 1 1", "0 -1 -2; 0 -1 -2"))
	// Guards.
	for _, ref := range []int{1, 4096, -4, math.MinInt, math.MaxInt} {
		for at := range 3 {
			a := first()
			a.Guard[at] = ref
			wrong(t, a)
		}
	}
}

func TestAutomataWhoseStateZeroAccepts(t *testing.T) {
	for n := range 9 {
		for states := 1; states < 6; states++ {
			for set := range 1 << states {
				a := idle(n, states)
				for s := range states {
					a.Accept[s] = set>>s%2 == 1
				}
				if a.Accept[0] {
					noAuto(t, a)
					for _, s := range splitsOf(min(n, 2)) {
						checks(t, a, s, api.ErrAuto)
					}
				} else {
					checks(t, a, api.Split{Env: api.Letter(1<<n - 1)}, api.OK)
				}
			}
		}
	}
	// The others are not looked at: not whether they are reached, nor whether there are any that accept.
	for _, accept := range []string{"000", "010", "001", "011"} {
		a := auto(2, accept, "0 -2 -3", "0 -2 -3")
		checks(t, a, api.Split{Env: 1, Sys: 2}, api.OK)
		checks(t, a, api.Split{Env: 1, Sys: 1}, api.ErrSplit)
	}
	a := first()
	a.Accept[0] = true
	noAuto(t, a)
}

// P22.1: splits

func TestSplits(t *testing.T) {
	t.Parallel()
	for n := range 9 {
		a := idle(n, 2)
		many := 0
		for env := range 256 {
			for sys := range 256 {
				s := api.Split{Env: api.Letter(env), Sys: api.Letter(sys)}
				if isSplit(n, s) {
					many++
					checks(t, a, s, api.OK)
				} else {
					checks(t, a, s, api.ErrSplit)
				}
			}
			if t.Failed() {
				t.FailNow()
			}
		}
		if many != 1<<n || len(splitsOf(n)) != many {
			t.Fatal(n, many, len(splitsOf(n)))
		}
		for _, s := range splitsOf(n) {
			checks(t, a, s, api.OK)
		}
	}
}

func TestSplitsThatAreWrittenOut(t *testing.T) {
	for _, c := range []struct {
		props    int
		env, sys api.Letter
		must     api.Errno
	}{
		// One of both has none.
		{2, 3, 0, api.OK},
		{2, 0, 3, api.OK},
		{8, 255, 0, api.OK},
		{8, 0, 255, api.OK},
		{8, 170, 85, api.OK},
		// No proposition.
		{0, 0, 0, api.OK},
		{0, 1, 0, api.ErrSplit},
		{0, 0, 1, api.ErrSplit},
		{0, 128, 0, api.ErrSplit},
		{0, 255, 255, api.ErrSplit},
		// In both.
		{2, 3, 1, api.ErrSplit},
		{2, 2, 3, api.ErrSplit},
		{2, 3, 3, api.ErrSplit},
		{8, 255, 1, api.ErrSplit},
		{8, 128, 255, api.ErrSplit},
		// In none of both.
		{2, 0, 0, api.ErrSplit},
		{2, 2, 0, api.ErrSplit},
		{2, 0, 1, api.ErrSplit},
		{8, 127, 0, api.ErrSplit},
		{8, 170, 84, api.ErrSplit},
		// A bit that is no proposition of the automaton's, in one or in both.
		{2, 5, 2, api.ErrSplit},
		{2, 1, 6, api.ErrSplit},
		{2, 5, 6, api.ErrSplit},
		{2, 7, 0, api.ErrSplit},
		{2, 0, 255, api.ErrSplit},
		{7, 128, 127, api.ErrSplit},
		{7, 255, 128, api.ErrSplit},
		// One in both and one in none; of the same sum as a split.
		{2, 1, 1, api.ErrSplit},
		{2, 2, 2, api.ErrSplit},
		{8, 254, 254, api.ErrSplit},
	} {
		a, s := idle(c.props, 2), api.Split{Env: c.env, Sys: c.sys}
		checks(t, a, s, c.must)
		for q := range 2 {
			if c.must == api.OK {
				leadsTo(t, a, s, q, toldRows(goes(a, s, q)))
			} else {
				noGoes(t, a, s, q, c.must)
			}
		}
	}
}

// P22.2: Moves and Number

func TestMoves(t *testing.T) {
	moves(t, 1, "0 1")
	moves(t, 2, "0 2")
	moves(t, 128, "0 128")
	moves(t, 3, "0 1 2 3")
	moves(t, 6, "0 2 4 6")
	moves(t, 129, "0 1 128 129")
	moves(t, 42, "0 2 8 10 32 34 40 42")
	moves(t, 240, "0 16 32 48 64 80 96 112 128 144 160 176 192 208 224 240")
	moves(t, 255, told(letter.All(8)))
	for mask := range 256 {
		moves(t, api.Letter(mask), told(choices(api.Letter(mask))))
	}
	for n := range 9 {
		moves(t, api.Letter(1<<n-1), told(letter.All(n)))
	}
}

func TestNumber(t *testing.T) {
	number(t, 0, 0, 0)
	number(t, 255, 0, 0)
	number(t, 255, 255, 255)
	number(t, 128, 128, 1)
	number(t, 42, 40, 6)
	number(t, 129, 129, 3)
	noNumber(t, 0, 1)
	noNumber(t, 0, 255)
	noNumber(t, 127, 128)
	noNumber(t, 254, 1)
	noNumber(t, 254, 255)
	for mask := range 256 {
		at := 0
		for move := range 256 {
			outside := false
			for p := range 8 {
				outside = outside || has(api.Letter(move), p) && !has(api.Letter(mask), p)
			}
			if outside {
				noNumber(t, api.Letter(mask), api.Letter(move))
			} else {
				number(t, api.Letter(mask), api.Letter(move), at)
				at++
			}
		}
		if t.Failed() {
			t.FailNow()
		}
	}
}

// P22.2: Of

func TestOf(t *testing.T) {
	few := []string{"p", "q", "r"}
	parts(t, few, nil, api.Split{Sys: 7})
	parts(t, few, []string{}, api.Split{Sys: 7})
	parts(t, few, few, api.Split{Env: 7})
	parts(t, few, []string{"r", "p"}, api.Split{Env: 5, Sys: 2})
	parts(t, few, []string{"q", "q", "q"}, api.Split{Env: 2, Sys: 5})
	parts(t, few, slices.Repeat([]string{"r", "q"}, 2000), api.Split{Env: 6, Sys: 1})
	for _, none := range [][]string{nil, {}} {
		parts(t, none, nil, api.Split{})
		parts(t, none, []string{}, api.Split{})
		noParts(t, none, []string{"p"}, api.ErrMissing)
	}
	parts(t, names(8), names(8), api.Split{Env: 255})
	parts(t, names(8), nil, api.Split{Sys: 255})
	parts(t, names(8), []string{"h"}, api.Split{Env: 128, Sys: 127})
	// Of each split of each number of names, whatever the order is.
	chance := rand.New(rand.NewSource(1))
	for n := range 9 {
		for _, s := range splitsOf(n) {
			var env []string
			for _, p := range chance.Perm(n) {
				if has(s.Env, p) {
					env = append(env, names(n)[p])
				}
			}
			parts(t, names(n), env, s)
			checks(t, idle(n, 2), s, api.OK)
		}
	}
}

func TestNamesOfWhichNoSplitIsMade(t *testing.T) {
	few := []string{"p", "q"}
	long := strings.Repeat("a", 21)
	for _, c := range []struct {
		names, env []string
		must       api.Errno
	}{
		// More than 8, ahead of all else.
		{append(names(8), "i"), nil, api.ErrLong},
		{append(names(8), "i"), []string{"x"}, api.ErrLong},
		{append(names(8), "a"), nil, api.ErrLong},
		{append(names(8), ""), []string{"a"}, api.ErrLong},
		{slices.Repeat([]string{"P"}, 9), nil, api.ErrLong},
		// What is no name, and what stands twice: the first of both.
		{[]string{""}, nil, api.ErrName},
		{[]string{"p", "P"}, []string{"p"}, api.ErrName},
		{[]string{"p", "last"}, nil, api.ErrName},
		{[]string{"true", "true"}, nil, api.ErrName},
		{[]string{"p", "1q"}, nil, api.ErrName},
		{[]string{long}, []string{long}, api.ErrName},
		{[]string{"p", "q", "p"}, []string{"p"}, api.ErrThere},
		{[]string{"p", "p"}, []string{"r"}, api.ErrThere},
		{[]string{"p", "p", "P"}, nil, api.ErrThere},
		{[]string{"p", "P", "p"}, nil, api.ErrName},
		// One of the environment's that is none of the names.
		{few, []string{"r"}, api.ErrMissing},
		{few, []string{"p", "q", "r"}, api.ErrMissing},
		{few, []string{"r", "p"}, api.ErrMissing},
		{few, []string{""}, api.ErrMissing},
		{few, []string{"P"}, api.ErrMissing},
		{few, []string{"true"}, api.ErrMissing},
		{few, []string{"p q"}, api.ErrMissing},
		{few, []string{long}, api.ErrMissing},
		{few, append(names(8), "i"), api.ErrMissing},
	} {
		noParts(t, c.names, c.env, c.must)
	}
	parts(t, []string{long[:20], "p1"}, []string{long[:20]}, api.Split{Env: 1, Sys: 2})
}

// P22.3

func TestGoesIsRefusedInOrder(t *testing.T) {
	good := api.Split{Env: 1, Sys: 2}
	for _, a := range []api.Auto{first(), until(), idle(2, 1), idle(2, 7), sized(256, 256)} {
		n := len(a.Accept)
		for _, q := range []int{-1, -2, -n, n, n + 1, 2 * n, 256, 257, 1 << 32, -1 << 32, math.MinInt, math.MaxInt} {
			if 0 <= q && q < n {
				continue
			}
			noGoes(t, a, good, q, api.ErrArg)
			noGoes(t, a, api.Split{Env: 3, Sys: 2}, q, api.ErrSplit)
			noGoes(t, a, api.Split{Env: 1, Sys: 6}, q, api.ErrSplit)
			noGoes(t, a, api.Split{}, q, api.ErrSplit)
			b := a
			b.Accept = slices.Clone(a.Accept)
			b.Accept[0] = true
			noGoes(t, b, good, q, api.ErrAuto)
			noGoes(t, b, api.Split{}, q, api.ErrAuto)
		}
		leadsTo(t, a, good, n-1, toldRows(goes(a, good, n-1)))
	}
}

func TestGoes(t *testing.T) {
	a := leads(2, "0001", "0 1 2 3; 3 2 1 0; 1*4; 3 3 0 2")
	for _, c := range []struct {
		env, sys api.Letter
		q        int
		must     string
	}{
		// A row for each choice of the environment.
		{1, 2, 0, "0 2; 1 3"},
		{2, 1, 0, "0 1; 2 3"},
		{3, 0, 0, "0; 1; 2; 3"},
		{0, 3, 0, "0 1 2 3"},
		{1, 2, 1, "3 1; 2 0"},
		{2, 1, 1, "3 2; 1 0"},
		{1, 2, 2, "1 1; 1 1"},
		{3, 0, 2, "1; 1; 1; 1"},
		// An accepting state leads on, too.
		{1, 2, 3, "3 0; 3 2"},
		{2, 1, 3, "3 3; 0 2"},
		{0, 3, 3, "3 3 0 2"},
	} {
		leadsTo(t, a, api.Split{Env: c.env, Sys: c.sys}, c.q, c.must)
	}
	// p U q, and p at the first position.
	leadsTo(t, until(), api.Split{Env: 1, Sys: 2}, 0, "1 2; 0 2")
	leadsTo(t, until(), api.Split{Env: 2, Sys: 1}, 0, "1 0; 2 2")
	leadsTo(t, until(), api.Split{Env: 2, Sys: 1}, 1, "1 1; 1 1")
	leadsTo(t, until(), api.Split{Sys: 3}, 2, "2 2 2 2")
	// The same with its nodes in another order, and with one to which no state comes.
	other := auto(2, "001", "3 -2 -3", "1 -1 -3; 1 -3 -1; 1 -2 -3; 0 2 0")
	for q := range 3 {
		for _, s := range splitsOf(2) {
			leadsTo(t, other, s, q, toldRows(goes(until(), s, q)))
		}
	}
	leadsTo(t, first(), api.Split{Env: 2, Sys: 1}, 0, "1 2; 1 2")
	// Three propositions, of which the middle one is the other's: the numbers of the choices are not the letters.
	b := leads(3, "00000001", "0 1 2 3 4 5 6 7; 0*8; 7 6 5 4 3 2 1 0; 0*8; 0*8; 0*8; 0*8; 0*8")
	leadsTo(t, b, api.Split{Env: 5, Sys: 2}, 0, "0 2; 1 3; 4 6; 5 7")
	leadsTo(t, b, api.Split{Env: 2, Sys: 5}, 0, "0 1 4 5; 2 3 6 7")
	leadsTo(t, b, api.Split{Env: 2, Sys: 5}, 2, "7 6 3 2; 5 4 1 0")
	leadsTo(t, b, api.Split{Env: 6, Sys: 1}, 0, "0 1; 2 3; 4 5; 6 7")
	leadsTo(t, b, api.Split{Env: 1, Sys: 6}, 0, "0 2 4 6; 1 3 5 7")
}

func TestAutomataOfChance(t *testing.T) {
	t.Parallel()
	chance := rand.New(rand.NewSource(2))
	for range 600 {
		n := chance.Intn(5)
		a := growAuto(chance, n, 1+chance.Intn(7), 3)
		for _, s := range splitsOf(n) {
			asTheModelSays(t, a, s)
		}
	}
}

func TestAutomataOfFormulas(t *testing.T) {
	few := []string{"p", "q", "r"}
	for _, text := range []string{"true", "false", "F last", "p", "X p", "N p", "p U q", "p R q", "G (p <-> q)", "F (p & q & r)", "G (p -> X q)", "<({p} ; {q})*> r", "G F p", "p <-> (q <-> r)"} {
		a := compiled(t, few, text)
		for _, s := range splitsOf(3) {
			asTheModelSays(t, a, s)
		}
	}
}

// No proposition, and 8 of them

func TestNoProposition(t *testing.T) {
	none := api.Split{}
	moves(t, none.Env, "0")
	for _, c := range []struct {
		accept, guards string
	}{{"0", "-1"}, {"01", "-2 -2"}, {"00", "-1 -1"}, {"0101", "-2 -3 -4 -1"}} {
		a := auto(0, c.accept, c.guards, "")
		asTheModelSays(t, a, none)
		for q, ref := range a.Guard {
			leadsTo(t, a, none, q, strconv.Itoa(-1-ref))
			for _, s := range []api.Split{{Env: 1}, {Sys: 1}, {Env: 255, Sys: 255}} {
				noGoes(t, a, s, q, api.ErrSplit)
			}
		}
		noGoes(t, a, none, len(a.Guard), api.ErrArg)
		noGoes(t, a, none, -1, api.ErrArg)
	}
	noAuto(t, auto(0, "1", "-1", ""))
}

func TestEightPropositions(t *testing.T) {
	t.Parallel()
	// Each letter leads to a state of its own number.
	rows := [][]int{make([]int, 256)}
	for l := range 256 {
		rows[0][l] = l
	}
	for s := 1; s < 256; s++ {
		rows = append(rows, slices.Repeat([]int{s}, 256))
	}
	a := built(8, make([]bool, 256), rows)
	for _, s := range splitsOf(8) {
		checks(t, a, s, api.OK)
		leadsTo(t, a, s, 0, toldRows(goes(a, s, 0)))
	}
	leadsTo(t, a, api.Split{Sys: 255}, 0, told(rows[0]))
	leadsTo(t, a, api.Split{Env: 255}, 0, strings.Join(strings.Fields(told(rows[0])), "; "))
	leadsTo(t, a, api.Split{Env: 192, Sys: 63}, 255, strings.Join(slices.Repeat([]string{told(slices.Repeat([]int{255}, 64))}, 4), "; "))
	noGoes(t, a, api.Split{Env: 192, Sys: 63}, 256, api.ErrArg)
	noGoes(t, a, api.Split{Env: 192, Sys: 31}, 0, api.ErrSplit)
	chance := rand.New(rand.NewSource(3))
	for range 20 {
		asTheModelSays(t, growAuto(chance, 8, 1+chance.Intn(30), 3), growSplit(chance, 8))
	}
}

// crowded tells an automaton with 256 states and with just 4,096 nodes.
func crowded(chance *rand.Rand) api.Auto {
	st, _ := guard.New(8)
	a := api.Auto{Props: 8}
	for s := range 256 {
		// On so many of the last propositions the state hangs: no more than there is room for.
		many := 8
		for st.Len()+1<<many-1 > 4096 {
			many--
		}
		where := make([]int, 256)
		for l := range where {
			where[l] = chance.Intn(256)
		}
		for l := range where {
			where[l] = where[l>>(8-many)<<(8-many)]
		}
		a.Accept = append(a.Accept, s == 255)
		ref, _ := st.Add(where)
		a.Guard = append(a.Guard, ref)
	}
	a.Nodes = st.Nodes()
	return a
}

func TestAsManyStatesAndNodesAsThereMayBe(t *testing.T) {
	t.Parallel()
	chance := rand.New(rand.NewSource(4))
	a := crowded(chance)
	if len(a.Accept) != 256 || len(a.Nodes) != 4096 {
		t.Fatal(len(a.Accept), len(a.Nodes))
	}
	for _, s := range []api.Split{{Env: 15, Sys: 240}, {Env: 170, Sys: 85}, {Env: 255}} {
		asTheModelSays(t, a, s)
	}
	a.Nodes = append(a.Nodes, api.Node{P: 7, Lo: -256, Hi: -255})
	wrong(t, a)
}

// P22.4

func TestWhatFollowsForChoices(t *testing.T) {
	for n := range 9 {
		for mask := range 1 << n {
			few := 0
			for p := range n {
				if has(api.Letter(mask), p) {
					few++
				}
			}
			l := board.Moves(api.Letter(mask))
			if len(l) != 1<<few || !slices.IsSorted(l) {
				t.Fatal(mask, l)
			}
			for at, move := range l {
				number(t, api.Letter(mask), move, at)
			}
		}
	}
}

func TestEachLetterIsJustOneRoundsLetter(t *testing.T) {
	for n := range 9 {
		for _, s := range splitsOf(n) {
			met := make([]int, 256)
			for _, choice := range board.Moves(s.Env) {
				for _, answer := range board.Moves(s.Sys) {
					met[choice|answer]++
				}
			}
			for l, times := range met {
				if l < 1<<n && times != 1 || l >= 1<<n && times != 0 {
					t.Fatal(s, l, times)
				}
			}
		}
	}
}

func TestGoesHasEachStateToWhichALetterLeads(t *testing.T) {
	t.Parallel()
	chance := rand.New(rand.NewSource(5))
	for range 300 {
		n := chance.Intn(7)
		a := growAuto(chance, n, 1+chance.Intn(9), 3)
		s := growSplit(chance, n)
		for q, ref := range a.Guard {
			rows, err := board.Goes(a, s, q)
			if len(rows) != len(board.Moves(s.Env)) || err != api.OK {
				t.Fatal(toldAuto(a), s, q, rows, err)
			}
			// A letter's place is told by the numbers of its two choices.
			for _, l := range letter.All(n) {
				choice, one := board.Number(s.Env, l&s.Env)
				answer, other := board.Number(s.Sys, l&s.Sys)
				must, reached := guard.Go(a.Nodes, ref, l)
				if rows[choice][answer] != must || one != api.OK || other != api.OK || !reached {
					t.Fatal(toldAuto(a), s, q, l, rows)
				}
			}
			where, _ := guard.Table(n, a.Nodes, ref)
			all := slices.Concat(rows...)
			slices.Sort(where)
			slices.Sort(all)
			if !slices.Equal(all, where) {
				t.Fatal(toldAuto(a), s, q, all, where)
			}
		}
	}
}

// P1, and the rules

// spoil writes over a list, and over its spare room.
func spoil[T any](l []T, with T) {
	l = l[:cap(l)]
	for i := range l {
		l[i] = with
	}
}

func TestAnswersShareNoMemory(t *testing.T) {
	t.Parallel()
	for mask := range 256 {
		one, other := board.Moves(api.Letter(mask)), board.Moves(api.Letter(mask))
		spoil(one, 77)
		if !slices.Equal(other, choices(api.Letter(mask))) {
			t.Fatal(mask, other)
		}
		moves(t, api.Letter(mask), told(choices(api.Letter(mask))))
	}
	chance := rand.New(rand.NewSource(6))
	for range 200 {
		n := chance.Intn(6)
		a, s := growAuto(chance, n, 5, 3), growSplit(chance, n)
		q := chance.Intn(5)
		was, must := toldAuto(a), goes(a, s, q)
		for changed := range must {
			rows, _ := board.Goes(a, s, q)
			other, _ := board.Goes(a, s, q)
			spoil(rows[changed], 77)
			for i := range rows {
				if i != changed && !slices.Equal(rows[i], must[i]) {
					t.Fatal(toldAuto(a), s, q, changed, rows)
				}
			}
			spoil(rows, []int{77})
			if toldRows(other) != toldRows(must) {
				t.Fatal(toldAuto(a), s, q, changed, other)
			}
			leadsTo(t, a, s, q, toldRows(must))
		}
		if toldAuto(a) != was {
			t.Fatal(was, toldAuto(a))
		}
	}
}

// roomy tells an automaton whose lists have spare room, in which other things stand.
func roomy(a api.Auto) api.Auto {
	return api.Auto{
		Props:  a.Props,
		Accept: append(slices.Clip(a.Accept), true, false, true)[:len(a.Accept)],
		Guard:  append(slices.Clip(a.Guard), 99, -99, 0)[:len(a.Guard)],
		Nodes:  append(slices.Clip(a.Nodes), api.Node{P: 9, Lo: 9, Hi: 9}, api.Node{}, api.Node{P: -1, Lo: -1, Hi: -1})[:len(a.Nodes)],
	}
}

// whole tells an automaton with what stands in its spare room.
func whole(a api.Auto) api.Auto {
	return api.Auto{Props: a.Props, Accept: a.Accept[:len(a.Accept)+3], Guard: a.Guard[:len(a.Guard)+3], Nodes: a.Nodes[:len(a.Nodes)+3]}
}

func TestNothingHandedInIsChangedOrReadBehindItsEnd(t *testing.T) {
	t.Parallel()
	chance := rand.New(rand.NewSource(7))
	for range 200 {
		n := chance.Intn(5)
		a, s := roomy(growAuto(chance, n, 1+chance.Intn(5), 3)), growSplit(chance, n)
		was := toldAuto(whole(a))
		asTheModelSays(t, a, s)
		noGoes(t, a, s, len(a.Accept), api.ErrArg)
		noGoes(t, a, s, len(a.Accept)+1, api.ErrArg)
		// One that may not be is refused as it is, whatever stands behind its end.
		less := a
		less.Guard = a.Guard[:len(a.Guard)-1]
		wrong(t, less)
		none := a
		none.Accept, none.Guard = a.Accept[:0], a.Guard[:0]
		wrong(t, none)
		if toldAuto(whole(a)) != was {
			t.Fatal(was, toldAuto(whole(a)))
		}
	}
	all, env := append(names(3), "x", "y"), []string{"c", "a", "x", "P"}
	parts(t, all[:3], env[:2], api.Split{Env: 5, Sys: 2})
	noParts(t, all[:3], env[:3], api.ErrMissing)
	noParts(t, append(all[:1:1], env[:3]...), env, api.ErrThere)
	if strings.Join(all, " ") != "a b c x y" || strings.Join(env, " ") != "c a x P" {
		t.Error(all, env)
	}
}

func TestNilAndEmptyAreTheSame(t *testing.T) {
	for _, l := range [][]api.Node{nil, {}, make([]api.Node, 0, 8)} {
		a := api.Auto{Props: 2, Accept: bools("01"), Guard: []int{-2, -2}, Nodes: l}
		leadsTo(t, a, api.Split{Env: 1, Sys: 2}, 0, "1 1; 1 1")
		for _, guards := range [][]int{nil, {}} {
			wrong(t, api.Auto{Props: 2, Guard: guards, Nodes: l})
			wrong(t, api.Auto{Props: 2, Accept: []bool{}, Guard: guards, Nodes: l})
			wrong(t, api.Auto{Props: 2, Accept: bools("0"), Guard: guards, Nodes: l})
		}
	}
}

// odd tells a number such as no one asks for.
func odd(chance *rand.Rand) int {
	switch chance.Intn(4) {
	case 0:
		return []int{math.MinInt, math.MaxInt, math.MinInt + 1, math.MaxInt - 1, 1 << 32, -1 << 32, 256, 4096}[chance.Intn(8)]
	case 1:
		return int(chance.Uint64())
	}
	return chance.Intn(9) - 4
}

// oddAuto tells an automaton that may be played, or such as no one asks for.
func oddAuto(chance *rand.Rand) api.Auto {
	if chance.Intn(3) > 0 {
		a := growAuto(chance, chance.Intn(3), 1+chance.Intn(4), 2)
		a.Accept[0] = chance.Intn(4) == 0
		return a
	}
	a := api.Auto{Props: odd(chance), Accept: make([]bool, chance.Intn(4)), Guard: make([]int, chance.Intn(4)), Nodes: make([]api.Node, chance.Intn(3))}
	for i := range a.Guard {
		a.Guard[i] = odd(chance)
	}
	for i := range a.Nodes {
		a.Nodes[i] = api.Node{P: odd(chance), Lo: odd(chance), Hi: odd(chance)}
	}
	return a
}

// refusal tells by the chapter's words what must be told of an automaton and a split.
func refusal(a api.Auto, s api.Split) api.Errno {
	switch {
	case guard.Check(a) != api.OK || a.Accept[0]:
		return api.ErrAuto
	case !isSplit(a.Props, s):
		return api.ErrSplit
	}
	return api.OK
}

func TestCallsAreCalm(t *testing.T) {
	t.Parallel()
	chance := rand.New(rand.NewSource(8))
	met := map[api.Errno]int{}
	for range 20000 {
		a, q := oddAuto(chance), odd(chance)
		s := api.Split{Env: api.Letter(chance.Intn(256)), Sys: api.Letter(chance.Intn(256))}
		if chance.Intn(3) > 0 {
			s = growSplit(chance, min(8, max(0, a.Props)))
		}
		must := refusal(a, s)
		checks(t, a, s, must)
		if must == api.OK && (q < 0 || q >= len(a.Accept)) {
			must = api.ErrArg
		}
		met[must]++
		if must != api.OK {
			noGoes(t, a, s, q, must)
		} else {
			leadsTo(t, a, s, q, toldRows(goes(a, s, q)))
		}
		if t.Failed() {
			t.FailNow()
		}
	}
	for _, err := range []api.Errno{api.OK, api.ErrArg, api.ErrAuto, api.ErrSplit} {
		if met[err] < 500 {
			t.Error(err, met[err])
		}
	}
}

// oddName tells a name, or now and then what is none.
func oddName(chance *rand.Rand) string {
	if chance.Intn(15) == 0 {
		return []string{"", "A", "last", "a b", "\xff", "\x00", strings.Repeat("z", 21)}[chance.Intn(7)]
	}
	return string(rune('a' + chance.Intn(20)))
}

func TestOfIsCalm(t *testing.T) {
	t.Parallel()
	chance := rand.New(rand.NewSource(9))
	met := map[api.Errno]int{}
	for range 40000 {
		var l [2][]string
		for i := range l {
			for range chance.Intn(11) {
				l[i] = append(l[i], oddName(chance))
			}
		}
		if chance.Intn(2) == 0 {
			l[1] = l[0][:chance.Intn(len(l[0])+1)]
		}
		on, err := letter.Of(l[0], l[1])
		met[err]++
		if err != api.OK {
			noParts(t, l[0], l[1], err)
			continue
		}
		s, _ := board.Of(l[0], l[1])
		parts(t, l[0], l[1], s)
		if s.Env != on || !isSplit(len(l[0]), s) {
			t.Fatal(l, on, s)
		}
	}
	for _, err := range []api.Errno{api.OK, api.ErrLong, api.ErrName, api.ErrThere, api.ErrMissing} {
		if met[err] < 500 {
			t.Error(err, met[err])
		}
	}
}

func TestAnswersHangOnArgumentsAlone(t *testing.T) {
	t.Parallel()
	chance := rand.New(rand.NewSource(10))
	a, s := growAuto(chance, 5, 20, 4), api.Split{Env: 19, Sys: 12}
	var group sync.WaitGroup
	for i := range 8 {
		group.Go(func() {
			for range 20 {
				checks(t, a, s, api.OK)
				moves(t, 42, "0 2 8 10 32 34 40 42")
				number(t, 42, 40, 6)
				parts(t, names(5), []string{"e", "b", "a"}, s)
				leadsTo(t, a, s, i, toldRows(goes(a, s, i)))
				noGoes(t, a, s, 20+i, api.ErrArg)
			}
		})
	}
	group.Wait()
}
