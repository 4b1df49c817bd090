package canon_test

import (
	"math"
	"math/rand"
	"slices"
	"strconv"
	"sync"
	"testing"

	"rejoinder/api"
	"rejoinder/canon"
	"rejoinder/det"
	"rejoinder/guard"
	"rejoinder/kernel"
	"rejoinder/letter"
	"rejoinder/mean"
	"rejoinder/parse"
	"rejoinder/part"
)

// three tells the automaton of the chapter's examples.
func three() api.Auto {
	return auto(1, "011", "0 1 0", "0 -1 -2; 0 -1 -3")
}

// two tells its smallest automaton.
func two() api.Auto { return auto(1, "01", "0 0", "0 -1 -2") }

// least asks Min, which must tell so.
func least(t *testing.T, a, must api.Auto) {
	t.Helper()
	if m, err := canon.Min(a); toldAuto(m) != toldAuto(must) || err != api.OK {
		t.Errorf("Min of %.300s = %.300s %d, not %.300s", toldAuto(a), toldAuto(m), err, toldAuto(must))
	}
}

// is asks Is, which must tell so.
func is(t *testing.T, a api.Auto, must bool) {
	t.Helper()
	if is, err := canon.Is(a); is != must || err != api.OK {
		t.Errorf("Is of %.300s = %t %d", toldAuto(a), is, err)
	}
}

// same asks Same of two automata, in both orders.
func same(t *testing.T, a, b api.Auto, must bool) {
	t.Helper()
	if canon.Same(a, b) != must || canon.Same(b, a) != must {
		t.Errorf("Same of %.300s and %.300s is not %t", toldAuto(a), toldAuto(b), must)
	}
}

// goes asks Next, which must tell so.
func goes(t *testing.T, a api.Auto, q int, l api.Letter, must int) {
	t.Helper()
	if to, err := canon.Next(a, q, l); to != must || err != api.OK {
		t.Errorf("Next(%.300s, %d, %d) = %d %d, not %d", toldAuto(a), q, l, to, err, must)
	}
}

// noNext asks Next, which must be refused.
func noNext(t *testing.T, a api.Auto, q int, l api.Letter, must api.Errno) {
	t.Helper()
	if to, err := canon.Next(a, q, l); to != 0 || err != must {
		t.Errorf("Next(%.300s, %d, %d) = %d %d, not %d", toldAuto(a), q, l, to, err, must)
	}
}

// runs asks Run, which must tell so.
func runs(t *testing.T, a api.Auto, tr []api.Letter, must int) {
	t.Helper()
	if to, err := canon.Run(a, tr); to != must || err != api.OK {
		t.Errorf("Run(%.300s, %.20v) = %d %d, not %d", toldAuto(a), tr, to, err, must)
	}
}

// noRun asks Run, which must be refused.
func noRun(t *testing.T, a api.Auto, tr []api.Letter, must api.Errno) {
	t.Helper()
	if to, err := canon.Run(a, tr); to != 0 || err != must {
		t.Errorf("Run(%.300s) by %d letters = %d %d, not %d", toldAuto(a), len(tr), to, err, must)
	}
}

// noAuto asks all of an automaton that may not be: whatever else is asked for, this is told.
func noAuto(t *testing.T, a api.Auto) {
	t.Helper()
	if guard.Check(a) != api.ErrAuto {
		t.Errorf("%.300s may be", toldAuto(a))
	}
	if m, err := canon.Min(a); m.Props != 0 || len(m.Accept)+len(m.Guard)+len(m.Nodes) != 0 || err != api.ErrAuto {
		t.Errorf("Min of %.300s = %.300s %d", toldAuto(a), toldAuto(m), err)
	}
	if is, err := canon.Is(a); is || err != api.ErrAuto {
		t.Errorf("Is of %.300s = %t %d", toldAuto(a), is, err)
	}
	n := len(a.Accept)
	for _, q := range []int{0, 1, n - 1, n, n + 1, -1, 256, math.MinInt, math.MaxInt} {
		for _, l := range letters("0 1 2 128 255") {
			noNext(t, a, q, l, api.ErrAuto)
		}
	}
	for _, tr := range [][]api.Letter{nil, {}, {0}, {1, 1}, {255, 0}, make([]api.Letter, 1024), make([]api.Letter, 1025), letters("255*1025")} {
		noRun(t, a, tr, api.ErrAuto)
	}
}

// asTheModelSays asks for the smallest automaton, and for what follows of it.
func asTheModelSays(t *testing.T, a api.Auto) api.Auto {
	t.Helper()
	must := newModel(a).smallest()
	least(t, a, must)
	is(t, a, toldAuto(a) == toldAuto(must))
	is(t, must, true)
	least(t, must, must)
	if len(must.Accept) > len(a.Accept) || len(must.Nodes) > len(a.Nodes) {
		t.Errorf("Min of %.300s is greater: %.300s", toldAuto(a), toldAuto(must))
	}
	if t.Failed() {
		t.Fatal(toldAuto(a))
	}
	return must
}

// The chapter's examples

func TestExamples(t *testing.T) {
	least(t, three(), two())
	is(t, three(), false)
	is(t, two(), true)
	goes(t, three(), 2, 1, 1)
	noNext(t, three(), 3, 1, api.ErrArg)
	noNext(t, three(), 0, 2, api.ErrArg)
	runs(t, three(), letters("1 1"), 2)
	runs(t, three(), nil, 0)
	noAuto(t, api.Auto{})
	noAuto(t, api.Auto{Props: 1})
	if a := leads(1, "011", "0 1; 0 2; 0 1"); toldAuto(a) != toldAuto(three()) {
		t.Error(toldAuto(a))
	}
}

// P17.1 and P17.2: automata that may not be

// sized tells an automaton of so many states without nodes.
func sized(states, guards int) api.Auto {
	a := api.Auto{Props: 2, Accept: make([]bool, states), Guard: make([]int, guards)}
	for i := range a.Guard {
		a.Guard[i] = -1 - i%max(states, 1)
	}
	return a
}

// nodesOf tells so many nodes of the proposition 0, each another one, of 65 states or more.
func nodesOf(many int) []api.Node {
	var l []api.Node
	for i := range many {
		lo, hi := i/64, i%64
		if hi >= lo {
			hi++
		}
		l = append(l, api.Node{P: 0, Lo: -1 - lo, Hi: -1 - hi})
	}
	return l
}

func TestAutomataThatMayNotBe(t *testing.T) {
	noAuto(t, api.Auto{})
	// Propositions.
	for _, n := range []int{-1, 9, 64, math.MinInt, math.MaxInt} {
		noAuto(t, auto(n, "1", "-1", ""))
		noAuto(t, auto(n, "10", "0 0", "0 -1 -2"))
	}
	// States and guards.
	for _, c := range [][2]int{{0, 0}, {0, 1}, {1, 0}, {1, 2}, {2, 1}, {255, 256}, {256, 255}, {256, 257}, {257, 257}, {257, 256}, {1000, 1000}} {
		noAuto(t, sized(c[0], c[1]))
	}
	// Nodes.
	a := sized(80, 80)
	a.Nodes = nodesOf(4097)
	noAuto(t, a)
	// A node's proposition.
	for _, p := range []int{-1, 1, 2, 8, math.MinInt, math.MaxInt} {
		noAuto(t, api.Auto{Props: 1, Accept: bools("01"), Guard: []int{0, 0}, Nodes: []api.Node{{P: p, Lo: -1, Hi: -2}}})
	}
	noAuto(t, auto(0, "01", "0 0", "0 -1 -2"))
	// Both sides alike.
	noAuto(t, auto(2, "01", "0 0", "0 -1 -1"))
	noAuto(t, auto(2, "01", "1 1", "1 -1 -2; 0 0 0"))
	// A side that is no state, no lesser place, or of no greater proposition.
	for _, ref := range []int{-3, -4, math.MinInt, 1, 2, 4096, math.MaxInt, 0} {
		noAuto(t, api.Auto{Props: 2, Accept: bools("01"), Guard: []int{0, 0}, Nodes: []api.Node{{P: 0, Lo: ref, Hi: -2}, {P: 1, Lo: -1, Hi: -2}}})
		noAuto(t, api.Auto{Props: 2, Accept: bools("01"), Guard: []int{0, 0}, Nodes: []api.Node{{P: 0, Lo: -2, Hi: ref}, {P: 1, Lo: -1, Hi: -2}}})
	}
	noAuto(t, auto(2, "01", "1 1", "1 -1 -2; 1 -1 0"))
	noAuto(t, auto(2, "01", "1 1", "0 -1 -2; 1 0 -1"))
	// Nodes the same.
	noAuto(t, auto(1, "01", "0 1", "0 -1 -2; 0 -1 -2"))
	// Guards.
	for _, ref := range []int{1, 2, 4096, -3, -4, math.MinInt, math.MaxInt} {
		for at := range 2 {
			a := auto(1, "01", "0 0", "0 -1 -2")
			a.Guard[at] = ref
			noAuto(t, a)
		}
	}
	// What is wrong is so too where no state comes to it.
	noAuto(t, auto(2, "01", "-1 -2", "0 -1 -1"))
	noAuto(t, auto(2, "01", "-1 -2", "2 -1 -2"))
	noAuto(t, auto(2, "01", "-1 9", ""))
}

// P17.1: Min

func TestMin(t *testing.T) {
	for _, c := range []struct {
		props        int
		accept, rows string
		must         api.Auto
	}{
		// One state; one letter.
		{0, "0", "0", auto(0, "0", "-1", "")},
		{0, "1", "0", auto(0, "1", "-1", "")},
		{2, "1", "0*4", auto(2, "1", "-1", "")},
		{0, "01", "1; 0", auto(0, "01", "-2 -1", "")},
		{0, "01", "1; 1", auto(0, "01", "-2 -2", "")},
		{0, "010101", "1; 2; 3; 4; 5; 0", auto(0, "01", "-2 -1", "")},
		{0, "001001", "1; 2; 3; 4; 5; 0", auto(0, "001", "-2 -3 -1", "")},
		{0, "000001", "1; 2; 3; 4; 5; 0", auto(0, "000001", "-2 -3 -4 -5 -6 -1", "")},
		// All alike.
		{1, "000", "1 2; 2 0; 1 1", auto(1, "0", "-1", "")},
		{1, "111", "1 2; 2 0; 1 1", auto(1, "1", "-1", "")},
		// A state that no trace reaches does not stand in it: a first, a last one, one between.
		{1, "01", "0 0; 0 1", auto(1, "0", "-1", "")},
		{1, "0101", "0 2; 3 3; 2 0; 1 1", auto(1, "0", "-1", "")},
		{1, "0110", "0 2; 3 3; 2 0; 1 1", auto(1, "01", "0 1", "0 -1 -2; 0 -2 -1")},
		{1, "0001", "0 3; 0 0; 1 2; 3 0", auto(1, "01", "0 1", "0 -1 -2; 0 -2 -1")},
		// One that is like a state that is reached, though it is the least of its class.
		{1, "0110", "2 0; 2 0; 2 3; 2 0", auto(1, "01", "0 0", "0 -2 -1")},
		// One that is like the state 0 and leads to it is the state 0.
		{1, "0010", "1 2; 3 2; 3 2; 0 2", auto(1, "01", "0 0", "0 -1 -2")},
		// In the order in which they are met: by rising letters.
		{1, "001", "1 2; 1 1; 2 2", auto(1, "001", "0 -2 -3", "0 -2 -3")},
		{1, "001", "2 1; 1 1; 2 2", auto(1, "010", "0 -2 -3", "0 -2 -3")},
		{1, "010", "2 1; 1 1; 2 2", auto(1, "001", "0 -2 -3", "0 -2 -3")},
	} {
		a := leads(c.props, c.accept, c.rows)
		least(t, a, c.must)
		asTheModelSays(t, a)
	}
	// State by state as they were met: 0 3 1 4 2, no two of which are alike.
	a := leads(1, "00001", "3 1; 2 0; 4 2; 4 0; 4 4")
	least(t, a, leads(1, "00010", "1 2; 3 0; 4 0; 3 3; 3 4"))
	asTheModelSays(t, a)
}

func TestMinIsNumberedByTheFirstStateThatIsMet(t *testing.T) {
	// The least state of the second class is not reached.
	a := leads(1, "01001", "3 4; 1 0; 2 1; 3 4; 4 0")
	if of, _ := part.Classes(a); told(of) != "0 1 0 0 1" {
		t.Fatal(of)
	}
	least(t, a, leads(1, "01", "0 1; 1 0"))
	// The third class is met ahead of the second one.
	a = leads(2, "0010100", "4 5 6 0; 1*4; 2*4; 3*4; 2*4; 6*4; 5*4")
	if of, _ := part.Classes(a); told(of) != "0 1 2 1 2 1 1" {
		t.Fatal(of)
	}
	least(t, a, leads(2, "010", "1 2 2 0; 1*4; 2*4"))
	asTheModelSays(t, a)
	// All orders of four states behind the state 0, by rising letters.
	chance := rand.New(rand.NewSource(1))
	must := leads(2, "00101", "1 2 3 4; 2*4; 1*4; 4 4 3 3; 3 0 3 0")
	for range 60 {
		names := append([]int{0}, chance.Perm(4)...)
		for s := 1; s < 5; s++ {
			names[s]++
		}
		a := renamed(must, names)
		least(t, a, must)
		is(t, a, slices.Equal(names, rising(5)))
	}
}

func TestMinsListsAreAddedByRisingState(t *testing.T) {
	// The nodes of the state 0 stand ahead of those of the state 1, Lo ahead of Hi, and what is there already stands once.
	a := auto(2, "0110", "5 7 5 7", "1 -1 -4; 1 -2 -4; 1 -1 -3; 1 -2 -3; 1 -4 -2; 0 2 1; 1 -4 -3; 0 6 4; 0 -1 -2")
	least(t, a, leads(2, "0110", "0 1 2 3; 3 3 2 1; 0 1 2 3; 3 3 2 1"))
	least(t, a, auto(2, "0110", "2 5 2 5", "1 -1 -3; 1 -2 -4; 0 0 1; 1 -4 -3; 1 -4 -2; 0 3 4"))
	asTheModelSays(t, a)
	// By a store of chapter 14.
	chance := rand.New(rand.NewSource(2))
	for range 300 {
		a := growAuto(chance, chance.Intn(5), 1+chance.Intn(8), 3)
		m, err := canon.Min(a)
		if err != api.OK {
			t.Fatal(err)
		}
		s, _ := guard.New(a.Props)
		for q, ref := range m.Guard {
			where, err := guard.Table(m.Props, m.Nodes, ref)
			if err != api.OK {
				t.Fatal(q, err)
			}
			if again, err := s.Add(where); again != ref || err != api.OK {
				t.Fatal(toldAuto(m), q, again, err)
			}
		}
		if !slices.Equal(s.Nodes(), m.Nodes) {
			t.Fatal(toldAuto(m), s.Nodes())
		}
	}
}

func TestNodesThatNoStateComesTo(t *testing.T) {
	a := two()
	a.Nodes = nodes("0 -1 -2; 0 -2 -1")
	least(t, a, two())
	is(t, a, false)
	// Such as just a state that is not reached comes to.
	a = auto(1, "010", "0 0 1", "0 -1 -2; 0 -2 -3")
	least(t, a, two())
	is(t, a, false)
	// As many nodes as may be, of which one is met, that goes to states that are alike.
	a = sized(256, 256)
	a.Props, a.Nodes, a.Guard[0] = 1, nodesOf(4096), 4095
	least(t, a, auto(1, "0", "-1", ""))
	a.Accept[64] = true
	least(t, a, auto(1, "001", "0 -2 -3", "0 -2 -3"))
	a.Accept[0] = true
	a.Accept[63] = true
	a.Accept[64] = false
	least(t, a, auto(1, "110", "0 -2 -3", "0 -2 -3"))
}

func TestNoProposition(t *testing.T) {
	// One letter: some states ahead of a round of others.
	for ahead := range 4 {
		for round := 1; round < 5; round++ {
			for set := range 1 << (ahead + round) {
				states := ahead + round
				a := api.Auto{}
				for s := range states {
					to := s + 1
					if to == states {
						to = ahead
					}
					a.Accept = append(a.Accept, set>>s%2 == 1)
					a.Guard = append(a.Guard, -1-to)
				}
				least(t, a, byTraces(a))
				asTheModelSays(t, a)
			}
		}
	}
	// 256 states of one letter: all apart, and all alike by turns.
	a := chain(0, 256, 0, 0)
	least(t, a, a)
	is(t, a, true)
	for s := range a.Accept {
		a.Accept[s] = s%2 == 1
	}
	a.Guard[255] = -1
	least(t, a, auto(0, "01", "-2 -1", ""))
	a.Guard[255] = -2
	least(t, a, asTheModelSays(t, a))
}

func TestEightPropositions(t *testing.T) {
	t.Parallel()
	for _, by := range letters("0 1 128 254 255") {
		for _, states := range []int{2, 3, 17} {
			a := chain(8, states, by, 0)
			least(t, a, a)
			is(t, a, true)
			// The same, with a state that is like the first one, and with one that is not reached.
			var rows [][]int
			accept := append(slices.Clone(a.Accept), false, true)
			for s := range states {
				rows = append(rows, slices.Repeat([]int{states}, 256))
				rows[s][by] = s + 1
			}
			rows[states-1] = slices.Repeat([]int{states - 1}, 256)
			rows = append(rows, slices.Clone(rows[0]), rows[0])
			b := built(8, accept, rows)
			least(t, b, a)
			is(t, b, false)
			asTheModelSays(t, b)
		}
	}
	// Each proposition by itself.
	for p := range 8 {
		a := api.Auto{Props: 8, Accept: bools("01"), Guard: []int{0, 0}, Nodes: []api.Node{{P: p, Lo: -1, Hi: -2}}}
		least(t, a, a)
		b := api.Auto{Props: 8, Accept: bools("011"), Guard: []int{1, 0, 1}, Nodes: []api.Node{{P: p, Lo: -1, Hi: -2}, {P: p, Lo: -1, Hi: -3}}}
		least(t, b, a)
		is(t, b, false)
	}
}

// crowded tells an automaton with 256 states that are all reached, and with just 4,096 nodes.
func crowded(chance *rand.Rand) api.Auto {
	d := &decided{props: 8, refs: map[string]int{}}
	a := api.Auto{Props: 8}
	for s := range 256 {
		// On so many of the last propositions the state hangs: no more than there is room for.
		many := 8
		for len(d.nodes)+1<<many-1 > 4096 {
			many--
		}
		where := make([]int, 256)
		for l := range where {
			where[l] = chance.Intn(256)
		}
		where[0] = min(s+1, 255)
		for l := range where {
			where[l] = where[l>>(8-many)<<(8-many)]
		}
		a.Accept = append(a.Accept, chance.Intn(2) == 0)
		a.Guard = append(a.Guard, d.add(where))
	}
	// The last states lead on by all letters: how soon they are through is told by the last that does not accept.
	a.Accept[254], a.Accept[255] = false, true
	a.Nodes = d.nodes
	return a
}

func TestAsManyStatesAndNodesAsThereMayBe(t *testing.T) {
	t.Parallel()
	chance := rand.New(rand.NewSource(3))
	for range 3 {
		a := crowded(chance)
		m := asTheModelSays(t, a)
		if len(m.Accept) != 256 || len(m.Nodes) != 4096 {
			t.Fatal(len(m.Accept), len(m.Nodes))
		}
		least(t, shuffled(chance, a), m)
		is(t, shuffled(chance, m), false)
		// The same states, all alike.
		b := api.Auto{Props: 8, Accept: make([]bool, 256), Guard: a.Guard, Nodes: a.Nodes}
		least(t, b, auto(8, "0", "-1", ""))
		is(t, b, false)
	}
}

// P17.1: Is

func TestIs(t *testing.T) {
	for _, c := range []struct {
		why  string
		a    api.Auto
		must bool
	}{
		{"one state", auto(0, "0", "-1", ""), true},
		{"one state", auto(8, "1", "-1", ""), true},
		{"two states", two(), true},
		{"two states", auto(1, "10", "0 0", "0 -1 -2"), true},
		{"two states alike", auto(1, "00", "0 0", "0 -1 -2"), false},
		{"two states alike", auto(1, "11", "0 0", "0 -1 -2"), false},
		{"two of three alike", three(), false},
		{"all apart", auto(1, "011", "0 1 -1", "0 -1 -2; 0 -1 -3"), true},
		{"not reached", auto(1, "01", "-1 0", "0 -1 -2"), false},
		{"not reached", auto(1, "01", "-1 -2", ""), false},
		{"not reached, though it leads to all others", auto(1, "011", "0 0 1", "0 -1 -2; 0 -2 -3"), false},
		{"states in the order in which they are met", auto(1, "001", "0 -2 -3", "0 -2 -3"), true},
		{"states in another order", auto(1, "010", "0 -2 -3", "0 -3 -2"), false},
		{"states in another order, behind the first", auto(0, "0010", "-2 -4 -3 -3", ""), false},
		{"the same as they are met", auto(0, "0001", "-2 -3 -4 -4", ""), true},
		{"nodes by rising state", auto(1, "01", "0 1", "0 -1 -2; 0 -2 -1"), true},
		{"nodes by falling state", auto(1, "01", "1 0", "0 -2 -1; 0 -1 -2"), false},
		{"Lo ahead of Hi", auto(2, "01", "2 -2", "1 -1 -2; 1 -2 -1; 0 0 1"), true},
		{"Hi ahead of Lo", auto(2, "01", "2 -2", "1 -2 -1; 1 -1 -2; 0 1 0"), false},
		{"a node that no state comes to", auto(1, "01", "0 0", "0 -1 -2; 0 -2 -1"), false},
		{"a node that no state comes to, ahead", auto(1, "01", "1 1", "0 -2 -1; 0 -1 -2"), false},
		{"a node of another proposition that no state comes to", auto(2, "01", "0 0", "0 -1 -2; 1 -1 -2"), false},
		{"a node alone", auto(1, "01", "-2 -1", "0 -1 -2"), false},
		{"none", auto(1, "01", "-2 -1", ""), true},
	} {
		is(t, c.a, c.must)
		if must := asTheModelSays(t, c.a); c.must != (toldAuto(must) == toldAuto(c.a)) {
			t.Error(c.why, toldAuto(c.a))
		}
	}
}

func TestIsOfAlmostCanonicalOnes(t *testing.T) {
	t.Parallel()
	chance := rand.New(rand.NewSource(4))
	changed := map[string]int{}
	for range 600 {
		m := newModel(growAuto(chance, 1+chance.Intn(3), 3+chance.Intn(8), 3)).smallest()
		is(t, m, true)
		n := len(m.Accept)
		// States in another order.
		if n > 2 {
			names := rising(n)
			p, q := 1+chance.Intn(n-1), 1+chance.Intn(n-1)
			names[p], names[q] = q, p
			is(t, renamed(m, names), p == q)
			changed["states"]++
		}
		// A state that is not reached behind all others, like another one or not.
		for _, accept := range []bool{false, true} {
			b := api.Auto{Props: m.Props, Accept: append(slices.Clip(m.Accept), accept), Guard: append(slices.Clip(m.Guard), m.Guard[chance.Intn(n)]), Nodes: m.Nodes}
			is(t, b, false)
			least(t, b, m)
			changed["not reached"]++
		}
		// Nodes in another order.
		if b := shuffled(chance, m); toldAuto(b) != toldAuto(m) {
			is(t, b, false)
			least(t, b, m)
			changed["nodes"]++
		}
		// A node more.
		x := api.Node{P: m.Props - 1, Lo: -1 - chance.Intn(n), Hi: -1 - chance.Intn(n)}
		if x.Lo != x.Hi && !slices.Contains(m.Nodes, x) {
			b := m
			b.Nodes = append(slices.Clip(m.Nodes), x)
			is(t, b, false)
			least(t, b, m)
			changed["a node more"]++
		}
		// A state that is like another one.
		if b := blown(chance, m, n+1); len(newModel(b).reached()) == n+1 {
			is(t, b, false)
			least(t, b, m)
			changed["alike"]++
		}
	}
	for _, why := range []string{"states", "not reached", "nodes", "a node more", "alike"} {
		if changed[why] < 50 {
			t.Error(why, changed[why])
		}
	}
}

// P17.1: Same

func TestSame(t *testing.T) {
	a := auto(2, "0110", "2 5 -2 -1", "1 -1 -3; 1 -2 -4; 0 0 1; 1 -4 -3; 1 -4 -2; 0 3 4")
	copied := func() api.Auto {
		return api.Auto{Props: a.Props, Accept: slices.Clone(a.Accept), Guard: slices.Clone(a.Guard), Nodes: slices.Clone(a.Nodes)}
	}
	same(t, a, a, true)
	same(t, a, copied(), true)
	// Unlike in just one field.
	for _, n := range []int{0, 1, 3, -2, 2 + 1<<32, math.MinInt, math.MaxInt} {
		b := copied()
		b.Props = n
		same(t, a, b, false)
		same(t, b, b, true)
	}
	for i := range a.Accept {
		b := copied()
		b.Accept[i] = !b.Accept[i]
		same(t, a, b, false)
	}
	for i := range a.Guard {
		for _, ref := range []int{9, -9, a.Guard[i] + 1, -1 - a.Guard[i], a.Guard[i] + 1<<32, math.MinInt} {
			b := copied()
			b.Guard[i] = ref
			same(t, a, b, false)
			same(t, b, b, true)
		}
	}
	for i := range a.Nodes {
		for at := range 3 {
			b := copied()
			*[]*int{&b.Nodes[i].P, &b.Nodes[i].Lo, &b.Nodes[i].Hi}[at] += 1 << 32
			same(t, a, b, false)
			*[]*int{&b.Nodes[i].P, &b.Nodes[i].Lo, &b.Nodes[i].Hi}[at] -= 1<<32 - 1
			same(t, a, b, false)
		}
	}
	// One is but the beginning of the other, or stands in another order.
	for many := range 4 {
		b := copied()
		b.Accept = b.Accept[:many]
		same(t, a, b, false)
		b = copied()
		b.Guard = b.Guard[:many]
		same(t, a, b, false)
	}
	for many := range 6 {
		b := copied()
		b.Nodes = b.Nodes[:many]
		same(t, a, b, false)
	}
	b := copied()
	slices.Reverse(b.Guard)
	same(t, a, b, false)
	b = copied()
	slices.Reverse(b.Nodes)
	same(t, a, b, false)
	b = copied()
	b.Nodes[0], b.Nodes[1] = b.Nodes[1], b.Nodes[0]
	same(t, a, b, false)
	// The same language, not the same fields.
	same(t, three(), two(), false)
}

func TestSameOfAutomataThatMayNotBe(t *testing.T) {
	same(t, api.Auto{}, api.Auto{}, true)
	same(t, api.Auto{Props: -1}, api.Auto{Props: -1}, true)
	same(t, api.Auto{Props: -1}, api.Auto{}, false)
	same(t, api.Auto{}, auto(0, "1", "-1", ""), false)
	same(t, sized(257, 257), sized(257, 257), true)
	same(t, sized(257, 257), sized(257, 256), false)
	same(t, sized(257, 257), sized(256, 257), false)
	same(t, sized(0, 3), sized(0, 3), true)
	same(t, auto(9, "0", "7", "1 2 3; 1 2 3"), auto(9, "0", "7", "1 2 3; 1 2 3"), true)
	same(t, auto(9, "0", "7", "1 2 3; 1 2 3"), auto(9, "0", "7", "1 2 3"), false)
	a, b := sized(1, 1), sized(1, 1)
	a.Nodes, b.Nodes = nodesOf(10000), nodesOf(10000)
	same(t, a, b, true)
	b.Nodes[9999].Hi--
	same(t, a, b, false)
}

func TestSameOfNilAndEmptyLists(t *testing.T) {
	var all []api.Auto
	for _, accept := range [][]bool{nil, {}, make([]bool, 0, 3)} {
		for _, guards := range [][]int{nil, {}, make([]int, 0, 3)} {
			for _, l := range [][]api.Node{nil, {}, make([]api.Node, 0, 3)} {
				all = append(all, api.Auto{Props: 1, Accept: accept, Guard: guards, Nodes: l})
			}
		}
	}
	for _, a := range all {
		for _, b := range all {
			same(t, a, b, true)
		}
		same(t, a, api.Auto{Props: 1, Accept: []bool{false}}, false)
		same(t, a, api.Auto{Props: 1, Guard: []int{0}}, false)
		same(t, a, api.Auto{Props: 1, Nodes: []api.Node{{}}}, false)
	}
	// What stands in spare room does not count.
	same(t, roomy(three()), three(), true)
	same(t, roomy(api.Auto{}), api.Auto{}, true)
}

func TestSameOfGrownOnes(t *testing.T) {
	chance := rand.New(rand.NewSource(5))
	alike := 0
	for range 20000 {
		a, b := anyAuto(chance), anyAuto(chance)
		must := toldAuto(a) == toldAuto(b)
		if must {
			alike++
		}
		same(t, a, b, must)
		same(t, a, a, true)
	}
	if alike < 50 {
		t.Error(alike)
	}
}

// anyAuto tells an automaton with few fields, which may be or not.
func anyAuto(chance *rand.Rand) api.Auto {
	a := api.Auto{Props: chance.Intn(2), Accept: make([]bool, chance.Intn(3)), Guard: make([]int, chance.Intn(3)), Nodes: make([]api.Node, chance.Intn(2))}
	for i := range a.Accept {
		a.Accept[i] = chance.Intn(2) == 0
	}
	for i := range a.Guard {
		a.Guard[i] = chance.Intn(3) - 1
	}
	for i := range a.Nodes {
		a.Nodes[i] = api.Node{P: chance.Intn(2), Lo: chance.Intn(2), Hi: chance.Intn(2)}
	}
	return a
}

// P17.2: Next

func TestNext(t *testing.T) {
	a := leads(2, "0110", "0 1 2 3; 3 3 2 1; 2*4; 1 0 1 0")
	for q, row := range []string{"0 1 2 3", "3 3 2 1", "2*4", "1 0 1 0"} {
		for l, to := range numbers(row) {
			goes(t, a, q, api.Letter(l), to)
		}
	}
	goes(t, auto(0, "0", "-1", ""), 0, 0, 0)
	goes(t, auto(0, "01", "-2 -1", ""), 0, 0, 1)
	goes(t, auto(0, "01", "-2 -1", ""), 1, 0, 0)
	// A state that is not reached is a state all the same; one that is alike is another one.
	a = leads(1, "000", "0 0; 2 1; 1 0")
	goes(t, a, 1, 0, 2)
	goes(t, a, 2, 0, 1)
	goes(t, a, 2, 1, 0)
}

func TestNextOfNoState(t *testing.T) {
	for _, n := range []int{1, 2, 3, 64, 255, 256} {
		a := sized(n, n)
		for _, q := range []int{-1, -2, -n, n, n + 1, 2 * n, 256, 257, 512, n + 256, n + 65536, 1 << 31, 1 << 32, 1<<32 + 1, -1 << 32, math.MinInt, math.MinInt + 1, math.MaxInt, math.MaxInt - 1} {
			for _, l := range letters("0 3 4 255") {
				noNext(t, a, q, l, api.ErrArg)
			}
		}
		goes(t, a, 0, 3, 0)
		goes(t, a, n-1, 0, n-1)
	}
}

func TestNextByEachLetter(t *testing.T) {
	t.Parallel()
	chance := rand.New(rand.NewSource(6))
	for n := range 9 {
		a := growAuto(chance, n, 5, 2)
		for l := range 256 {
			for q := range 5 {
				if l < 1<<n {
					goes(t, a, q, api.Letter(l), next(a, q, api.Letter(l)))
				} else {
					noNext(t, a, q, api.Letter(l), api.ErrArg)
				}
			}
			noNext(t, a, 5, api.Letter(l), api.ErrArg)
			noNext(t, a, -1, api.Letter(l), api.ErrArg)
		}
	}
}

// P17.2: Run

func TestRun(t *testing.T) {
	a := leads(2, "0110", "0 1 2 3; 3 3 2 1; 2*4; 1 0 1 0")
	for _, c := range []struct {
		by string
		to int
	}{
		{"", 0}, {"0", 0}, {"1", 1}, {"2", 2}, {"3", 3},
		{"1 0", 3}, {"1 3", 1}, {"3 0", 1}, {"3 1", 0}, {"3 3", 0},
		{"1 2", 2}, {"1 2 3 3 3", 2}, {"3 0 1 1 3", 3}, {"0*1023 3", 3}, {"3*1024", 0}, {"3*1023", 3}, {"2 1*1023", 2},
	} {
		runs(t, a, letters(c.by), c.to)
	}
	for _, a := range []api.Auto{three(), two(), auto(0, "1", "-1", ""), sized(256, 256), auto(8, "01", "-2 -2", "")} {
		runs(t, a, nil, 0)
		runs(t, a, []api.Letter{}, 0)
	}
	// One letter alone: how many counts.
	a = chain(0, 256, 0, 0)
	for _, many := range []int{1, 2, 254, 255, 256, 1023, 1024} {
		runs(t, a, make([]api.Letter, many), min(many, 255))
	}
}

func TestRunOfTracesThatMayNotBe(t *testing.T) {
	for n := range 9 {
		a := api.Auto{Props: n, Accept: bools("01"), Guard: []int{-2, -2}}
		top := api.Letter(1<<n - 1)
		for _, many := range []int{1, 2, 500, 1023, 1024} {
			tr := slices.Repeat([]api.Letter{top}, many)
			runs(t, a, tr, 1)
			if n == 8 {
				continue
			}
			for _, at := range []int{0, many / 2, many - 1} {
				for _, l := range []api.Letter{top + 1, 255, 128} {
					bad := slices.Clone(tr)
					bad[at] = l
					noRun(t, a, bad, api.ErrArg)
				}
			}
		}
		for _, many := range []int{1025, 1026, 2048, 65536, 65537} {
			noRun(t, a, make([]api.Letter, many), api.ErrLong)
			noRun(t, a, slices.Repeat([]api.Letter{255}, many), api.ErrLong)
		}
	}
}

func TestRunOfGrownOnes(t *testing.T) {
	t.Parallel()
	chance := rand.New(rand.NewSource(7))
	met := map[api.Errno]int{}
	for range 1500 {
		n := chance.Intn(5)
		a := growAuto(chance, n, 1+chance.Intn(20), 3)
		for range 5 {
			// Letters of a proposition more, at times.
			tr := growTrace(chance, n+chance.Intn(20)/19, chance.Intn(30))
			err := letter.Trace(n, tr)
			met[err]++
			if err != api.OK {
				noRun(t, a, tr, err)
				continue
			}
			runs(t, a, tr, after(a, tr))
			// By Next, one by one.
			q := 0
			for _, l := range tr {
				q, _ = canon.Next(a, q, l)
			}
			runs(t, a, tr, q)
		}
	}
	if met[api.OK] < 1000 || met[api.ErrArg] < 100 {
		t.Error(met)
	}
}

// P17.3

func TestMinOfGrownOnesAsTheModelSays(t *testing.T) {
	t.Parallel()
	chance := rand.New(rand.NewSource(8))
	fewer := map[string]int{}
	for range 3000 {
		n, states := chance.Intn(4), 1+chance.Intn(9)
		a := growAuto(chance, n, states, 1+chance.Intn(6))
		if chance.Intn(2) == 0 {
			a = blown(chance, a, states+chance.Intn(10))
		}
		m := asTheModelSays(t, a)
		if len(m.Accept) < len(a.Accept) {
			fewer["states"]++
		}
		if len(m.Nodes) < len(a.Nodes) {
			fewer["nodes"]++
		}
		if toldAuto(a) == toldAuto(m) {
			fewer["none"]++
		}
	}
	for _, why := range []string{"states", "nodes", "none"} {
		if fewer[why] < 100 {
			t.Error(why, fewer[why])
		}
	}
}

func TestMinOfManyStatesAsTheModelSays(t *testing.T) {
	t.Parallel()
	chance := rand.New(rand.NewSource(9))
	for _, n := range []int{0, 1, 1, 2, 2, 3, 4} {
		small := growAuto(chance, n, 1+chance.Intn(90), 5)
		a := blown(chance, small, 256)
		m := asTheModelSays(t, a)
		least(t, small, m)
		least(t, shuffled(chance, a), m)
	}
}

func TestMinByTracesAlone(t *testing.T) {
	t.Parallel()
	chance := rand.New(rand.NewSource(10))
	for range 250 {
		n := chance.Intn(3)
		states := 1 + chance.Intn(5-n)
		a := growAuto(chance, n, states, 1+chance.Intn(4))
		if chance.Intn(2) == 0 && states > 2 {
			a = blown(chance, growAuto(chance, n, 2, 2), states)
		}
		least(t, a, byTraces(a))
	}
}

func TestMinAcceptsTheSameTraces(t *testing.T) {
	t.Parallel()
	chance := rand.New(rand.NewSource(11))
	for range 400 {
		n := chance.Intn(4)
		a := blown(chance, growAuto(chance, n, 1+chance.Intn(12), 3), 12+chance.Intn(20))
		m, err := canon.Min(a)
		if err != api.OK {
			t.Fatal(err)
		}
		if a.Accept[0] != m.Accept[0] {
			t.Fatal(toldAuto(a), toldAuto(m))
		}
		for range 60 {
			tr := growTrace(chance, n, chance.Intn(25))
			one, err := canon.Run(a, tr)
			other, errToo := canon.Run(m, tr)
			if a.Accept[one] != m.Accept[other] || a.Accept[one] != accepts(m, tr) || err != api.OK || errToo != api.OK {
				t.Fatal(toldAuto(a), toldAuto(m), tr)
			}
		}
		if unlike(a, m) {
			t.Fatal(toldAuto(a), toldAuto(m))
		}
	}
}

func TestTheSameMinJustIfTheSameTraces(t *testing.T) {
	t.Parallel()
	chance := rand.New(rand.NewSource(12))
	met := map[bool]int{}
	for range 6000 {
		n := chance.Intn(3)
		a := growAuto(chance, n, 1+chance.Intn(3), 2)
		b := growAuto(chance, n, 1+chance.Intn(3), 2)
		switch chance.Intn(4) {
		case 0:
			b = blown(chance, a, len(a.Accept)+chance.Intn(8))
		case 1:
			// As a, but for one state.
			b = blown(chance, a, len(a.Accept)+chance.Intn(8))
			q := chance.Intn(len(b.Accept))
			b.Accept[q] = !b.Accept[q]
		}
		one, err := canon.Min(a)
		other, errToo := canon.Min(b)
		if err != api.OK || errToo != api.OK {
			t.Fatal(err, errToo)
		}
		if canon.Same(one, other) == unlike(a, b) || (toldAuto(one) == toldAuto(other)) == unlike(a, b) {
			t.Fatal(toldAuto(a), toldAuto(b), toldAuto(one), toldAuto(other))
		}
		met[unlike(a, b)]++
	}
	if met[true] < 1000 || met[false] < 1000 {
		t.Error(met)
	}
}

func TestNoTwoOfItsStatesAreAlikeAndEachIsReached(t *testing.T) {
	t.Parallel()
	chance := rand.New(rand.NewSource(13))
	for range 300 {
		n := chance.Intn(4)
		a := blown(chance, growAuto(chance, n, 1+chance.Intn(20), 4), 20+chance.Intn(40))
		m, err := canon.Min(a)
		if err != api.OK || guard.Check(m) != api.OK {
			t.Fatal(toldAuto(m), err)
		}
		of, _ := part.Classes(m)
		met, _ := part.Reached(m)
		if must := rising(len(m.Accept)); !slices.Equal(of, must) || !slices.Equal(met, must) {
			t.Fatal(toldAuto(m), of, met)
		}
		of, _ = part.Classes(a)
		if len(m.Accept) > slices.Max(of)+1 || len(m.Nodes) > len(a.Nodes) {
			t.Fatal(toldAuto(m), toldAuto(a))
		}
	}
}

func TestNamesAndNodesDoNotCount(t *testing.T) {
	t.Parallel()
	chance := rand.New(rand.NewSource(14))
	for range 400 {
		n, states := chance.Intn(4), 2+chance.Intn(12)
		a := growAuto(chance, n, states, 3)
		m, _ := canon.Min(a)
		names := append([]int{0}, chance.Perm(states-1)...)
		for s := 1; s < states; s++ {
			names[s]++
		}
		b := renamed(a, names)
		least(t, b, m)
		least(t, shuffled(chance, b), m)
		least(t, blown(chance, b, states+chance.Intn(9)), m)
	}
}

// automatonOf tells the automaton that det makes of a text of which there is a position at all, and what was read.
func automatonOf(t *testing.T, names []string, text string) (api.Auto, []api.Tok) {
	t.Helper()
	f, fault := parse.Formula(names, text)
	if fault.Err != api.OK {
		t.Fatal(text, fault)
	}
	k, err := kernel.Of(f)
	if err != api.OK {
		t.Fatal(text, err)
	}
	a, err := det.Of(len(names), slices.Concat([]api.Tok{{Op: api.More}}, k, []api.Tok{{Op: api.And}}))
	if err != api.OK {
		t.Fatal(text, err)
	}
	return a, f
}

func TestAutomataOfFormulas(t *testing.T) {
	t.Parallel()
	names := []string{"p", "q"}
	// Without the empty one, which no formula's automaton accepts.
	all := traces(4, 4)[1:]
	for _, c := range []struct {
		must  api.Auto
		texts []string
	}{
		{auto(2, "001", "2 -2 -3", "1 -2 -3; 1 -1 -3; 0 0 1"), []string{"p U q", "<{p}*> q", "q | p & X (p U q)", "!(!p R !q)"}},
		{auto(2, "01", "0 0", "0 -1 -2"), []string{"G F p", "F (last & p)", "G F G p", "F G p"}},
		{auto(2, "01", "-2 -2", ""), []string{"F last", "true", "p | !p", "N true", "G (p -> p)"}},
		{auto(2, "0", "-1", ""), []string{"false", "p & !p", "X false", "G X true"}},
		{auto(2, "01", "-2 -1", ""), []string{"<({true} ; {true})*> last"}},
		{auto(2, "010", "-2 -3 -3", ""), []string{"last", "N false"}},
		{auto(2, "01", "0 -2", "1 -1 -2"), []string{"F q", "true U q", "<{true}*> q", "!G !q"}},
	} {
		for _, text := range c.texts {
			a, f := automatonOf(t, names, text)
			m := asTheModelSays(t, a)
			if toldAuto(m) != toldAuto(c.must) {
				t.Errorf("%s: %s, not %s", text, toldAuto(m), toldAuto(c.must))
			}
			if m.Accept[0] {
				t.Error(text, toldAuto(m))
			}
			for _, tr := range all {
				satisfied, err := mean.Sat(f, tr)
				q, errToo := canon.Run(m, tr)
				if m.Accept[q] != satisfied || errToo != api.OK || err != api.OK {
					t.Fatal(text, tr, satisfied, err, q, errToo)
				}
			}
		}
	}
}

// P1, and the rules

// spoil writes over a list, and over its spare room.
func spoil[T any](l []T, with T) {
	l = l[:cap(l)]
	for i := range l {
		l[i] = with
	}
}

func TestAnswersShareNoMemory(t *testing.T) {
	t.Parallel()
	for _, a := range []api.Auto{three(), two(), chain(8, 12, 9, 0), leads(0, "1", "0"), leads(2, "0110", "0 1 2 3; 3 3 2 1; 0 1 2 3; 3 3 2 1")} {
		was := toldAuto(a)
		must := toldAuto(newModel(a).smallest())
		for range 3 {
			one, _ := canon.Min(a)
			other, _ := canon.Min(a)
			spoil(one.Accept, true)
			if toldAuto(other) != must {
				t.Fatal(was, toldAuto(other))
			}
			spoil(one.Guard, -7)
			spoil(one.Nodes, api.Node{P: 7, Lo: 7, Hi: 7})
			if toldAuto(other) != must || toldAuto(a) != was {
				t.Fatal(was, toldAuto(other), toldAuto(a))
			}
			again, _ := canon.Min(a)
			if toldAuto(again) != must {
				t.Fatal(was, toldAuto(again))
			}
		}
	}
	// Of what is the same already too the answer is new memory.
	a := two()
	m, _ := canon.Min(a)
	spoil(m.Accept, true)
	spoil(m.Guard, -7)
	spoil(m.Nodes, api.Node{})
	same(t, a, two(), true)
}

// roomy tells an automaton whose lists have spare room, in which other things stand.
func roomy(a api.Auto) api.Auto {
	return api.Auto{
		Props:  a.Props,
		Accept: append(slices.Clip(a.Accept), true, false, true)[:len(a.Accept)],
		Guard:  append(slices.Clip(a.Guard), 99, -99, 0)[:len(a.Guard)],
		Nodes:  append(slices.Clip(a.Nodes), api.Node{P: 9, Lo: 9, Hi: 9}, api.Node{}, api.Node{P: -1, Lo: -1, Hi: -1})[:len(a.Nodes)],
	}
}

func TestNothingHandedInIsChangedOrReadBehindItsEnd(t *testing.T) {
	chance := rand.New(rand.NewSource(15))
	for range 200 {
		n, states := chance.Intn(4), 1+chance.Intn(8)
		a := roomy(growAuto(chance, n, states, 3))
		whole := api.Auto{Props: a.Props, Accept: a.Accept[:states+3], Guard: a.Guard[:states+3], Nodes: a.Nodes[:len(a.Nodes)+3]}
		was := toldAuto(whole)
		long := append(growTrace(chance, n, chance.Intn(9)), 255, 255, 255)
		traceWas := slices.Clone(long)
		tr := long[:len(long)-3]
		asTheModelSays(t, a)
		same(t, a, a, true)
		goes(t, a, states-1, 0, next(a, states-1, 0))
		noNext(t, a, states, 0, api.ErrArg)
		runs(t, a, tr, after(a, tr))
		// One that may not be is refused as it is, whatever stands behind its end.
		short := a
		short.Guard = a.Guard[:states-1]
		noAuto(t, short)
		same(t, a, short, false)
		if toldAuto(whole) != was || !slices.Equal(long, traceWas) {
			t.Fatal(was, toldAuto(whole), long)
		}
	}
}

func TestNothingHandedInIsKept(t *testing.T) {
	a := three()
	m, _ := canon.Min(a)
	spoil(a.Accept, true)
	spoil(a.Guard, -1)
	spoil(a.Nodes, api.Node{})
	same(t, m, two(), true)
	// What is asked behind it is of what stands there now.
	noAuto(t, a)
	a.Nodes = nil
	least(t, a, auto(1, "1", "-1", ""))
	least(t, three(), two())
	tr := letters("1 1")
	runs(t, three(), tr, 2)
	tr[1] = 0
	runs(t, three(), tr, 0)
}

func TestNilAndEmptyAreTheSame(t *testing.T) {
	for _, l := range [][]api.Node{nil, {}, make([]api.Node, 0, 8)} {
		a := api.Auto{Props: 2, Accept: bools("01"), Guard: []int{-2, -2}, Nodes: l}
		least(t, a, a)
		is(t, a, true)
		goes(t, a, 0, 3, 1)
		runs(t, a, []api.Letter{}, 0)
		runs(t, a, nil, 0)
		for _, guards := range [][]int{nil, {}} {
			noAuto(t, api.Auto{Props: 2, Accept: nil, Guard: guards, Nodes: l})
			noAuto(t, api.Auto{Props: 2, Accept: []bool{}, Guard: guards, Nodes: l})
			noAuto(t, api.Auto{Props: 2, Accept: bools("1"), Guard: guards, Nodes: l})
		}
	}
}

// odd tells a number such as no one asks for.
func odd(chance *rand.Rand) int {
	switch chance.Intn(6) {
	case 0:
		return chance.Intn(12) - 4
	case 1:
		return []int{math.MinInt, math.MaxInt, math.MinInt + 1, math.MaxInt - 1, 1 << 20, -1 << 20, 1 << 32, -1 << 32, 255, 256}[chance.Intn(10)]
	case 2:
		return int(chance.Uint64())
	}
	return chance.Intn(6) - 3
}

// oddAuto tells an automaton that may be, or such as no one asks for.
func oddAuto(chance *rand.Rand) api.Auto {
	if chance.Intn(2) == 0 {
		return growAuto(chance, chance.Intn(3), 1+chance.Intn(3), 2)
	}
	a := api.Auto{Props: odd(chance), Accept: make([]bool, chance.Intn(4)), Guard: make([]int, chance.Intn(4)), Nodes: make([]api.Node, chance.Intn(3))}
	for i := range a.Guard {
		a.Guard[i] = odd(chance)
	}
	for i := range a.Nodes {
		a.Nodes[i] = api.Node{P: odd(chance), Lo: odd(chance), Hi: odd(chance)}
	}
	return a
}

func TestCallsAreCalm(t *testing.T) {
	t.Parallel()
	chance := rand.New(rand.NewSource(16))
	met := map[api.Errno]int{}
	for range 20000 {
		a := oddAuto(chance)
		must := guard.Check(a)
		m, err := canon.Min(a)
		is, other := canon.Is(a)
		if err != must || other != must || (err == api.OK) != (len(m.Accept) > 0) || is != (err == api.OK && canon.Same(a, m)) {
			t.Fatal(toldAuto(a), toldAuto(m), err, is, other)
		}
		q, l := odd(chance), api.Letter(chance.Intn(256))
		if chance.Intn(2) == 0 {
			q, l = chance.Intn(4), l%8
		}
		letters := slices.Repeat([]api.Letter{l}, []int{0, 1, 3, 1024, 1025}[chance.Intn(5)])
		first, second := must, must
		if must == api.OK {
			second = letter.Trace(a.Props, letters)
			if q < 0 || q >= len(a.Accept) || !letter.Fits(a.Props, l) {
				first = api.ErrArg
			}
		}
		met[first]++
		met[second]++
		to, err := canon.Next(a, q, l)
		if err != first || err == api.OK && to != next(a, q, l) || err != api.OK && to != 0 {
			t.Fatal(toldAuto(a), q, l, to, err)
		}
		to, err = canon.Run(a, letters)
		if err != second || err == api.OK && to != after(a, letters) || err != api.OK && to != 0 {
			t.Fatal(toldAuto(a), len(letters), l, to, err)
		}
		canon.Same(a, oddAuto(chance))
	}
	for _, err := range []api.Errno{api.OK, api.ErrArg, api.ErrLong, api.ErrAuto} {
		if met[err] < 500 {
			t.Error(err, met[err])
		}
	}
}

func TestAnswersHangOnArgumentsAlone(t *testing.T) {
	t.Parallel()
	chance := rand.New(rand.NewSource(17))
	a := blown(chance, growAuto(chance, 2, 30, 9), 200)
	tr := growTrace(chance, 2, 1024)
	all := func() string {
		m, err := canon.Min(a)
		is, other := canon.Is(a)
		q, third := canon.Run(a, tr)
		to, fourth := canon.Next(a, q, 3)
		return toldAuto(m) + strconv.FormatBool(is) + strconv.FormatBool(canon.Same(a, m)) + told([]int{q, to, int(err), int(other), int(third), int(fourth)})
	}
	must := all()
	var group sync.WaitGroup
	for range 8 {
		group.Go(func() {
			if got := all(); got != must {
				t.Error("another answer at another time")
			}
		})
	}
	group.Wait()
}
