package attract_test

import (
	"math"
	"math/rand"
	"slices"
	"sync"
	"testing"

	"rejoinder/api"
	"rejoinder/attract"
	"rejoinder/board"
	"rejoinder/canon"
	"rejoinder/compile"
	"rejoinder/guard"
)

// until tells the automaton of the chapter's examples: p U q.
func until() api.Auto { return auto(2, "001", "2 -2 -3", "1 -2 -3; 1 -1 -3; 0 0 1") }

// ranks asks Ranks, which must tell so, and Wins, which must tell whether the first of them is not -1.
func ranks(t *testing.T, a api.Auto, s api.Split, must string) {
	t.Helper()
	if l, err := attract.Ranks(a, s); told(l) != must || err != api.OK {
		t.Errorf("Ranks(%.300s, %v) = %.300s %d, not %.300s", toldAuto(a), s, told(l), err, must)
	}
	wins(t, a, s, numbers(must)[0] != -1)
}

// wins asks Wins, which must tell so.
func wins(t *testing.T, a api.Auto, s api.Split, must bool) {
	t.Helper()
	if is, err := attract.Wins(a, s); is != must || err != api.OK {
		t.Errorf("Wins(%.300s, %v) = %t %d, not %t", toldAuto(a), s, is, err, must)
	}
}

// steps asks Step, which must tell so.
func steps(t *testing.T, a api.Auto, s api.Split, won, must string) {
	t.Helper()
	if l, err := attract.Step(a, s, bools(won)); toldBools(l) != must || err != api.OK {
		t.Errorf("Step(%.300s, %v, %s) = %s %d, not %s", toldAuto(a), s, won, toldBools(l), err, must)
	}
}

// noRanks asks Ranks and Wins, which must be refused.
func noRanks(t *testing.T, a api.Auto, s api.Split, must api.Errno) {
	t.Helper()
	if l, err := attract.Ranks(a, s); l != nil || err != must {
		t.Errorf("Ranks(%.300s, %v) = %.300s %d, not %d", toldAuto(a), s, told(l), err, must)
	}
	if is, err := attract.Wins(a, s); is || err != must {
		t.Errorf("Wins(%.300s, %v) = %t %d, not %d", toldAuto(a), s, is, err, must)
	}
}

// noStep asks Step, which must be refused.
func noStep(t *testing.T, a api.Auto, s api.Split, won []bool, must api.Errno) {
	t.Helper()
	if l, err := attract.Step(a, s, won); l != nil || err != must {
		t.Errorf("Step(%.300s, %v, %d bools) = %.300s %d, not %d", toldAuto(a), s, len(won), toldBools(l), err, must)
	}
}

// refused asks all, which must be refused as Check is, whatever is won: ahead of a list that has not as many as there are states, too.
func refused(t *testing.T, a api.Auto, s api.Split, must api.Errno) {
	t.Helper()
	if err := board.Check(a, s); err != must {
		t.Errorf("Check(%.300s, %v) = %d, not %d", toldAuto(a), s, err, must)
	}
	noRanks(t, a, s, must)
	n := len(a.Accept)
	for _, many := range []int{0, 1, max(0, n-1), n, n + 1, 256, 257} {
		noStep(t, a, s, make([]bool, many), must)
		noStep(t, a, s, slices.Repeat([]bool{true}, many), must)
	}
	noStep(t, a, s, nil, must)
}

// asTheModelSays asks for ranks, and for the step of some lists.
func asTheModelSays(t *testing.T, a api.Auto, s api.Split, lists ...[]bool) {
	t.Helper()
	ranks(t, a, s, told(ranksOf(a, s)))
	for _, won := range lists {
		steps(t, a, s, toldBools(won), toldBools(stepOf(a, s, won)))
	}
	if t.Failed() {
		t.FailNow()
	}
}

// compiled tells the automaton of a formula's text.
func compiled(t *testing.T, names []string, text string) api.Auto {
	t.Helper()
	a, fault := compile.Text(names, text)
	if fault.Err != api.OK {
		t.Fatal(text, fault)
	}
	return a
}

// The chapter's examples

func TestExamples(t *testing.T) {
	a, err := compile.Tokens(2, []api.Tok{{Op: api.Prop}, {Op: api.Prop, P: 1}, {Op: api.Until}})
	if !canon.Same(a, until()) || err != api.OK {
		t.Fatal(toldAuto(a), err)
	}
	for _, c := range []struct {
		env, sys api.Letter
		ranks    string
		wins     bool
	}{{1, 2, "1 -1 0", true}, {2, 1, "-1 -1 0", false}, {0, 3, "1 -1 0", true}, {3, 0, "-1 -1 0", false}} {
		s := api.Split{Env: c.env, Sys: c.sys}
		ranks(t, a, s, c.ranks)
		wins(t, a, s, c.wins)
	}
}

// TestExamplesOfTheWhole: those of the whole document that speak of this layer.
func TestExamplesOfTheWhole(t *testing.T) {
	both := []string{"p", "q"}
	first := api.Split{Env: 1, Sys: 2}
	a := compiled(t, both, "G (p <-> q)")
	if l, err := attract.Ranks(a, first); err != api.OK || l[0] != 1 {
		t.Error(l, err)
	}
	wins(t, compiled(t, both, "F (p & q)"), first, false)
	b := compiled(t, []string{"q"}, "X X q")
	wins(t, b, api.Split{Env: 1}, false)
	if l, err := attract.Ranks(b, api.Split{Sys: 1}); err != api.OK || l[0] != 3 {
		t.Error(l, err)
	}
}

// P23.1: board.Check's error ahead of all

func TestAutomataThatMayNotBe(t *testing.T) {
	good := api.Split{Env: 1, Sys: 2}
	many := idle(2, 257)
	for _, a := range []api.Auto{
		{},
		{Props: 2},
		auto(-1, "01", "-2 -2", ""),
		auto(9, "01", "-2 -2", ""),
		auto(math.MaxInt, "01", "-2 -2", ""),
		// Unlike numbers of states and guards; too many of both.
		auto(2, "01", "-2", ""),
		auto(2, "01", "-2 -2 -2", ""),
		auto(2, "0", "-1 -1", ""),
		many,
		// Guards, nodes, and their sides, that are not there.
		auto(2, "01", "-3 -2", ""),
		auto(2, "01", "0 -2", ""),
		auto(2, "01", "1 -2", "0 -1 -2"),
		auto(2, "01", "0 -2", "2 -1 -2"),
		auto(2, "01", "0 -2", "-1 -1 -2"),
		auto(2, "01", "0 -2", "0 -1 -1"),
		auto(2, "01", "0 -2", "0 -1 -3"),
		auto(2, "01", "0 -2", "0 -1 0"),
		auto(2, "01", "0 -2", "0 -1 -2; 0 -1 -2"),
		auto(2, "01", "-2 -2", "1 -1 -2; 1 0 -1"),
		{Props: 2, Accept: bools("01"), Guard: []int{math.MinInt, math.MaxInt}},
	} {
		if guard.Check(a) != api.ErrAuto {
			t.Errorf("%.300s may be", toldAuto(a))
		}
		refused(t, a, good, api.ErrAuto)
		refused(t, a, api.Split{}, api.ErrAuto)
		refused(t, a, api.Split{Env: 255, Sys: 255}, api.ErrAuto)
	}
}

func TestAutomataWhoseStateZeroAccepts(t *testing.T) {
	for n := range 9 {
		for states := 1; states < 5; states++ {
			a := idle(n, states)
			a.Accept[0] = true
			for _, s := range []api.Split{{}, {Env: api.Letter(1<<n - 1)}, {Sys: api.Letter(1<<n - 1)}, {Env: 255, Sys: 255}} {
				refused(t, a, s, api.ErrAuto)
			}
			// The same, but for the state 0.
			a.Accept[0] = false
			must := "-1"
			if states > 1 {
				must = told([]int{3, 2, 1, 0}[4-states:])
			}
			ranks(t, a, api.Split{Sys: api.Letter(1<<n - 1)}, must)
		}
	}
}

func TestSplitsThatMayNotBe(t *testing.T) {
	t.Parallel()
	for n := range 9 {
		a := idle(n, 3)
		chance := rand.New(rand.NewSource(1))
		for range 400 {
			s := api.Split{Env: api.Letter(chance.Intn(256)), Sys: api.Letter(chance.Intn(256))}
			if !isSplit(n, s) {
				refused(t, a, s, api.ErrSplit)
			}
		}
		for _, s := range splitsOf(n) {
			ranks(t, a, s, "2 1 0")
			refused(t, a, api.Split{Env: s.Env ^ 1, Sys: s.Sys}, api.ErrSplit)
			refused(t, a, api.Split{Env: s.Env, Sys: s.Sys ^ 128}, api.ErrSplit)
		}
	}
	for _, s := range []api.Split{{}, {Env: 1}, {Sys: 2}, {Env: 3, Sys: 3}, {Env: 1, Sys: 3}, {Env: 1, Sys: 6}, {Env: 129, Sys: 2}, {Env: 255}} {
		refused(t, until(), s, api.ErrSplit)
	}
}

// P23.1: Ranks and Wins

func TestRanks(t *testing.T) {
	env, sys := api.Split{Env: 1, Sys: 2}, api.Split{Env: 2, Sys: 1}
	for _, c := range []struct {
		accept, rows string
		s            api.Split
		must         string
	}{
		// The system answers p by q: whatever p is, one q leads on. It needn't be the same one.
		{"01", "0 1 1 0; 1*4", env, "1 0"},
		{"01", "0 1 1 0; 1*4", sys, "1 0"},
		// Without p no q leads on: the environment keeps p away.
		{"01", "0 1 0 1; 1*4", env, "-1 0"},
		{"01", "0 1 0 1; 1*4", sys, "1 0"},
		// A choice of the environment's that leads on soon is none that it needs to choose.
		{"001", "1 2 1 2; 2*4; 2*4", env, "2 1 0"},
		{"001", "1 2 1 2; 2*4; 2*4", sys, "1 1 0"},
		// The least rank is taken, though a longer way is there too.
		{"0001", "1 2 3 1; 2*4; 3*4; 3*4", api.Split{Sys: 3}, "1 2 1 0"},
		{"0001", "1 2 3 1; 2*4; 3*4; 3*4", api.Split{Env: 3}, "3 2 1 0"},
		{"0001", "1 2 3 1; 2*4; 3*4; 3*4", env, "2 2 1 0"},
		{"0001", "1 2 3 1; 2*4; 3*4; 3*4", sys, "2 2 1 0"},
		// A state that accepts has the rank 0, wherever it leads: to itself, away for ever, on to others that accept.
		{"0100", "1*4; 2*4; 3*4; 2*4", env, "1 0 -1 -1"},
		{"0110", "3*4; 2*4; 0*4; 1*4", env, "2 0 0 1"},
		{"0111", "1*4; 2*4; 3*4; 0*4", env, "1 0 0 0"},
		{"0100", "3*4; 0*4; 1*4; 2*4", env, "3 0 1 2"},
		// One that is not reached from the state 0 has a rank as well.
		{"0001", "0*4; 3*4; 1*4; 3*4", env, "-1 1 2 0"},
		// A state that leads to itself, and to a state that accepts only where the environment wants it.
		{"01", "0 0 0 1; 1*4", api.Split{Env: 3}, "-1 0"},
		{"01", "0 0 0 1; 1*4", api.Split{Sys: 3}, "1 0"},
		{"01", "0 0 0 1; 1*4", env, "-1 0"},
		{"01", "0 1 1 1; 1*4", env, "1 0"},
		{"01", "1 1 1 0; 1*4", api.Split{Env: 3}, "-1 0"},
	} {
		ranks(t, leads(2, c.accept, c.rows), c.s, c.must)
	}
}

func TestNothingAccepts(t *testing.T) {
	chance := rand.New(rand.NewSource(2))
	for n := range 5 {
		for states := 1; states < 6; states++ {
			a := growAuto(chance, n, states, 2)
			clear(a.Accept)
			for _, s := range splitsOf(n) {
				ranks(t, a, s, told(slices.Repeat([]int{-1}, states)))
			}
		}
	}
	// One state alone: it is the state 0, which accepts not.
	ranks(t, auto(0, "0", "-1", ""), api.Split{}, "-1")
	ranks(t, auto(8, "0", "-1", ""), api.Split{Sys: 255}, "-1")
}

func TestEachStateButTheFirstAccepts(t *testing.T) {
	for states := 2; states < 6; states++ {
		rest := slices.Repeat([]int{0}, states-1)
		for n := range 4 {
			a := idle(n, states)
			for q := 1; q < states; q++ {
				a.Accept[q] = true
			}
			for _, s := range splitsOf(n) {
				ranks(t, a, s, told(append([]int{1}, rest...)))
			}
			// The state 0 leads to itself alone.
			a.Guard[0] = -1
			for _, s := range splitsOf(n) {
				ranks(t, a, s, told(append([]int{-1}, rest...)))
			}
		}
	}
	// The state 0 leads on by p alone.
	a := leads(2, "0111", "0 2 0 3; 0*4; 0*4; 0*4")
	ranks(t, a, api.Split{Env: 2, Sys: 1}, "1 0 0 0")
	ranks(t, a, api.Split{Env: 1, Sys: 2}, "-1 0 0 0")
}

// TestOneSideHasNoProposition: the system alone goes the shortest way, the environment alone has to be led by every way.
func TestOneSideHasNoProposition(t *testing.T) {
	a := leads(2, "00001", "1 2 1 2; 3*4; 4 0 0 0; 4*4; 4*4")
	ranks(t, a, api.Split{Sys: 3}, "2 2 1 1 0")
	ranks(t, a, api.Split{Env: 3}, "-1 2 -1 1 0")
	b := leads(2, "00001", "1 2 1 2; 3*4; 1 4 3 4; 4*4; 4*4")
	ranks(t, b, api.Split{Sys: 3}, "2 2 1 1 0")
	ranks(t, b, api.Split{Env: 3}, "4 2 3 1 0")
	chance := rand.New(rand.NewSource(3))
	for range 200 {
		n := 1 + chance.Intn(4)
		c := growAuto(chance, n, 1+chance.Intn(6), 3)
		all := api.Letter(1<<n - 1)
		asTheModelSays(t, c, api.Split{Env: all})
		asTheModelSays(t, c, api.Split{Sys: all})
	}
}

func TestNoProposition(t *testing.T) {
	none := api.Split{}
	for _, c := range []struct{ accept, guards, must, step string }{
		{"0", "-1", "-1", "0"},
		{"01", "-2 -2", "1 0", "11"},
		{"01", "-2 -1", "1 0", "10"},
		{"00", "-2 -1", "-1 -1", "00"},
		{"01", "-1 -1", "-1 0", "00"},
		{"0101", "-3 -1 -4 -1", "2 0 1 0", "0010"},
		{"0001", "-2 -3 -4 -1", "3 2 1 0", "0010"},
	} {
		a := auto(0, c.accept, c.guards, "")
		ranks(t, a, none, c.must)
		steps(t, a, none, c.accept, c.step)
		for _, s := range []api.Split{{Env: 1}, {Sys: 1}, {Env: 255, Sys: 255}} {
			refused(t, a, s, api.ErrSplit)
		}
		noStep(t, a, none, nil, api.ErrArg)
	}
	refused(t, auto(0, "1", "-1", ""), none, api.ErrAuto)
}

// P23.1: Step

func TestStep(t *testing.T) {
	env, sys := api.Split{Env: 1, Sys: 2}, api.Split{Env: 2, Sys: 1}
	// What is won is asked for, not what accepts: nor is a state one round before itself.
	for _, c := range []struct {
		s         api.Split
		won, must string
	}{
		{env, "001", "101"},
		{env, "100", "000"},
		{env, "010", "010"},
		{env, "110", "110"},
		{env, "011", "111"},
		{env, "101", "101"},
		{env, "000", "000"},
		{env, "111", "111"},
		{sys, "001", "001"},
		{sys, "010", "010"},
		{sys, "100", "000"},
		{sys, "101", "101"},
		{sys, "011", "111"},
		{sys, "110", "010"},
		{api.Split{Sys: 3}, "100", "100"},
		{api.Split{Sys: 3}, "010", "110"},
		{api.Split{Sys: 3}, "001", "101"},
		{api.Split{Env: 3}, "101", "001"},
		{api.Split{Env: 3}, "110", "010"},
		{api.Split{Env: 3}, "111", "111"},
	} {
		steps(t, until(), c.s, c.won, c.must)
	}
	// States that lead round: what is won moves on, and none keeps it.
	ring := auto(3, "01000", "-2 -3 -4 -5 -1", "")
	for _, s := range splitsOf(3) {
		steps(t, ring, s, "01000", "10000")
		steps(t, ring, s, "10000", "00001")
		steps(t, ring, s, "10110", "01101")
	}
}

func TestStepOfAnyList(t *testing.T) {
	t.Parallel()
	chance := rand.New(rand.NewSource(4))
	for range 300 {
		n, states := chance.Intn(4), 1+chance.Intn(6)
		asTheModelSays(t, growAuto(chance, n, states, 3), growSplit(chance, n), listsOf(states)...)
	}
}

func TestStepWhereNoneOrAllAreWon(t *testing.T) {
	t.Parallel()
	chance := rand.New(rand.NewSource(5))
	for range 200 {
		n, states := chance.Intn(6), 1+chance.Intn(30)
		a := growAuto(chance, n, states, 3)
		none, all := make([]bool, states), slices.Repeat([]bool{true}, states)
		s := growSplit(chance, n)
		steps(t, a, s, toldBools(none), toldBools(none))
		steps(t, a, s, toldBools(all), toldBools(all))
	}
}

func TestStepOfListsThatHaveNotAsMany(t *testing.T) {
	chance := rand.New(rand.NewSource(6))
	for _, states := range []int{1, 2, 3, 7, 255, 256} {
		a := growAuto(chance, 2, states, 3)
		for _, s := range splitsOf(2) {
			for _, many := range []int{0, 1, states - 1, states, states + 1, 2 * states, 256, 257, 4096} {
				for _, won := range [][]bool{make([]bool, many), slices.Repeat([]bool{true}, many)} {
					if many != states {
						noStep(t, a, s, won, api.ErrArg)
					} else {
						steps(t, a, s, toldBools(won), toldBools(stepOf(a, s, won)))
					}
				}
			}
			noStep(t, a, s, nil, api.ErrArg)
		}
		noStep(t, a, api.Split{Env: 1}, nil, api.ErrSplit)
		noStep(t, a, api.Split{Env: 1}, make([]bool, states+1), api.ErrSplit)
		a.Accept[0] = true
		noStep(t, a, api.Split{Env: 1, Sys: 2}, nil, api.ErrAuto)
		noStep(t, a, api.Split{Env: 1, Sys: 2}, make([]bool, states-1), api.ErrAuto)
	}
}

// P23.1: beside the model

// rowsOf tells all lists of so many states.
func rowsOf(many, states int) [][]int {
	if many == 0 {
		return [][]int{nil}
	}
	var lists [][]int
	for _, l := range rowsOf(many-1, states) {
		for q := range states {
			lists = append(lists, append(slices.Clip(l), q))
		}
	}
	return lists
}

// TestAllAutomataOfFewStates: of three states over one proposition, and of two over two, each.
func TestAllAutomataOfFewStates(t *testing.T) {
	t.Parallel()
	for _, c := range []struct{ n, states int }{{0, 4}, {1, 3}, {2, 2}} {
		letters := 1 << c.n
		for _, where := range rowsOf(letters*c.states, c.states) {
			rows := slices.Collect(slices.Chunk(where, letters))
			for _, accept := range listsOf(c.states) {
				if accept[0] {
					continue
				}
				a := built(c.n, accept, rows)
				for _, s := range splitsOf(c.n) {
					asTheModelSays(t, a, s, listsOf(c.states)...)
				}
			}
		}
	}
}

func TestAutomataOfChance(t *testing.T) {
	t.Parallel()
	chance := rand.New(rand.NewSource(7))
	met := map[int]int{}
	for range 1500 {
		n, states := chance.Intn(5), 1+chance.Intn(12)
		a := growAuto(chance, n, states, 6)
		if chance.Intn(2) == 0 {
			a = growLong(chance, n, states)
		}
		for _, s := range splitsOf(n) {
			asTheModelSays(t, a, s, growBools(chance, states, 2))
			for _, rank := range ranksOf(a, s) {
				met[rank]++
			}
		}
	}
	for rank := -1; rank < 8; rank++ {
		if met[rank] < 50 {
			t.Error(rank, met[rank])
		}
	}
}

func TestAutomataOfFormulas(t *testing.T) {
	t.Parallel()
	few := []string{"p", "q", "r"}
	for _, text := range []string{"true", "false", "F last", "p", "X p", "N p", "X X X p", "p U q", "p R q", "G (p <-> q)", "F (p & q & r)", "G (p -> X q)", "F p & F q & F r", "<({p} ; {q})*> r", "G F p", "p <-> (q <-> r)", "X X q & G (p -> N r)"} {
		a := compiled(t, few, text)
		for _, s := range splitsOf(3) {
			asTheModelSays(t, a, s, a.Accept)
			follows(t, a, s)
		}
	}
}

// Many states

// ladder tells an automaton of so many states that leads from rung to rung, the order of the rungs being given, to the last one, which alone accepts. A letter goes on by a rung where q is as p is, or else falls to the first rung, the state 0.
func ladder(order []int) api.Auto {
	rows := make([][]int, len(order))
	for at, q := range order {
		up := order[min(at+1, len(order)-1)]
		rows[q] = []int{up, 0, 0, up}
	}
	accept := make([]bool, len(order))
	accept[order[len(order)-1]] = true
	return built(2, accept, rows)
}

// onLadder tells the ranks of a ladder: each from 0 on once.
func onLadder(order []int) []int {
	l := make([]int, len(order))
	for at, q := range order {
		l[q] = len(order) - 1 - at
	}
	return l
}

func TestEachRankStands(t *testing.T) {
	t.Parallel()
	chance := rand.New(rand.NewSource(8))
	for _, states := range []int{2, 3, 17, 255, 256} {
		up := make([]int, states)
		for i := range up {
			up[i] = i
		}
		down := slices.Clone(up)
		slices.Reverse(down[1:])
		mixed := slices.Clone(up)
		chance.Shuffle(states-1, func(i, j int) { mixed[1+i], mixed[1+j] = mixed[1+j], mixed[1+i] })
		for _, order := range [][]int{up, down, mixed} {
			a := ladder(order)
			must := onLadder(order)
			for _, s := range []api.Split{{Env: 1, Sys: 2}, {Env: 2, Sys: 1}, {Sys: 3}} {
				ranks(t, a, s, told(must))
				follows(t, a, s)
			}
			// The environment alone goes on from the last rung but one as little as from any other.
			alone := slices.Repeat([]int{-1}, states)
			alone[order[states-1]] = 0
			ranks(t, a, api.Split{Env: 3}, told(alone))
			slices.Sort(must)
			if must[0] != 0 || must[states-1] != states-1 || len(slices.Compact(must)) != states {
				t.Fatal(must)
			}
		}
		ranks(t, idle(8, states), api.Split{Env: 170, Sys: 85}, told(onLadder(up)))
	}
}

// crowded tells an automaton with 256 states and with just 4,096 nodes, of which each leads to states near by.
func crowded(chance *rand.Rand) api.Auto {
	st, _ := guard.New(8)
	a := api.Auto{Props: 8}
	for q := range 256 {
		// On so many of the last propositions the state hangs: no more than there is room for.
		many := 8
		for st.Len()+1<<many-1 > 4096 {
			many--
		}
		where := make([]int, 256)
		for l := range where {
			where[l] = max(0, min(255, q+chance.Intn(8)-3))
		}
		for l := range where {
			where[l] = where[l>>(8-many)<<(8-many)]
		}
		a.Accept = append(a.Accept, q == 255)
		ref, _ := st.Add(where)
		a.Guard = append(a.Guard, ref)
	}
	a.Nodes = st.Nodes()
	return a
}

func TestAsManyStatesAndNodesAsThereMayBe(t *testing.T) {
	t.Parallel()
	chance := rand.New(rand.NewSource(9))
	a := crowded(chance)
	if len(a.Accept) != 256 || len(a.Nodes) != 4096 {
		t.Fatal(len(a.Accept), len(a.Nodes))
	}
	for _, s := range []api.Split{{Env: 1, Sys: 254}, {Env: 15, Sys: 240}, {Env: 255}, {Sys: 255}} {
		asTheModelSays(t, a, s, growBools(chance, 256, 2), a.Accept)
		follows(t, a, s)
	}
	a.Nodes = append(a.Nodes, api.Node{P: 7, Lo: -256, Hi: -255})
	refused(t, a, api.Split{Env: 255}, api.ErrAuto)
}

// P23.2

// high tells a rank as a number, -1 as the greatest.
func high(rank int) int {
	if rank == -1 {
		return never
	}
	return rank
}

// falls tells of a state of a rank above 0 whether by each choice of the environment the system has an answer by which it falls, and by some choice it has none by which it falls by more than one.
func falls(by map[int][]int, l []int, q int) bool {
	slow := false
	for _, where := range by {
		least := never
		for _, next := range where {
			least = min(least, high(l[next]))
		}
		if least >= l[q] {
			return false
		}
		slow = slow || least == l[q]-1
	}
	return slow
}

// stays tells of a state of the rank -1 whether by some choice of the environment each answer leads to such a state.
func stays(by map[int][]int, l []int) bool {
	for _, where := range by {
		if !slices.ContainsFunc(where, func(next int) bool { return l[next] != -1 }) {
			return true
		}
	}
	return false
}

// follows asks for ranks, of which what follows must hold.
func follows(t *testing.T, a api.Auto, s api.Split) {
	t.Helper()
	l, err := attract.Ranks(a, s)
	if err != api.OK || len(l) != len(a.Accept) {
		t.Fatal(toldAuto(a), s, l, err)
	}
	for q, rank := range l {
		by := answers(a, s, q)
		good := -1 <= rank && rank < len(l) && (rank == 0) == a.Accept[q]
		if rank > 0 {
			good = good && falls(by, l, q)
		}
		if rank == -1 {
			good = good && stays(by, l)
		}
		if !good {
			t.Fatalf("%.300s, %v: the state %d of %.300s", toldAuto(a), s, q, told(l))
		}
	}
}

func TestWhatFollows(t *testing.T) {
	t.Parallel()
	chance := rand.New(rand.NewSource(10))
	for range 800 {
		n, states := chance.Intn(6), 1+chance.Intn(20)
		a := growLong(chance, n, states)
		if chance.Intn(2) == 0 {
			a = growAuto(chance, n, states, 4)
		}
		for range 4 {
			follows(t, a, growSplit(chance, n))
		}
	}
}

// TestNoRankGrows: with more propositions for the system, of all splits of which the one has those of the other.
func TestNoRankGrows(t *testing.T) {
	t.Parallel()
	chance := rand.New(rand.NewSource(11))
	lower := 0
	for range 150 {
		n, states := chance.Intn(5), 1+chance.Intn(12)
		a := growLong(chance, n, states)
		if chance.Intn(2) == 0 {
			a = growAuto(chance, n, states, 5)
		}
		for _, s := range splitsOf(n) {
			few, _ := attract.Ranks(a, s)
			for _, o := range splitsOf(n) {
				if s.Sys&^o.Sys != 0 {
					continue
				}
				more, err := attract.Ranks(a, o)
				for q := range a.Accept {
					if err != api.OK || high(more[q]) > high(few[q]) {
						t.Fatal(toldAuto(a), s, o, q, few, more)
					}
					if high(more[q]) < high(few[q]) {
						lower++
					}
				}
			}
		}
	}
	if lower < 500 {
		t.Error(lower)
	}
}

// TestRanksAreStepsOfWhatIsWon: what has a rank of at most k + 1 has one of at most k, or is one round before these.
func TestRanksAreStepsOfWhatIsWon(t *testing.T) {
	t.Parallel()
	chance := rand.New(rand.NewSource(12))
	for range 300 {
		n, states := chance.Intn(5), 1+chance.Intn(20)
		a, s := growLong(chance, n, states), growSplit(chance, n)
		l, _ := attract.Ranks(a, s)
		won := slices.Clone(a.Accept)
		for most := range states + 1 {
			for q, is := range won {
				if is != (high(l[q]) <= most) {
					t.Fatal(toldAuto(a), s, l, most, won)
				}
			}
			more, err := attract.Step(a, s, won)
			if err != api.OK {
				t.Fatal(toldAuto(a), s, won, err)
			}
			for q, is := range more {
				won[q] = won[q] || is
			}
		}
	}
}

// P1, and the rules

// spoil writes over a list, and over its spare room.
func spoil[T any](l []T, with T) {
	l = l[:cap(l)]
	for i := range l {
		l[i] = with
	}
}

func TestAnswersShareNoMemory(t *testing.T) {
	t.Parallel()
	chance := rand.New(rand.NewSource(13))
	for range 300 {
		n, states := chance.Intn(5), 1+chance.Intn(6)
		a, s := growAuto(chance, n, states, 3), growSplit(chance, n)
		was, mustRanks := toldAuto(a), told(ranksOf(a, s))
		for _, won := range [][]bool{growBools(chance, states, 2), make([]bool, states), slices.Repeat([]bool{true}, states), a.Accept} {
			wonWas, mustStep := toldBools(won), toldBools(stepOf(a, s, won))
			one, _ := attract.Ranks(a, s)
			other, _ := attract.Ranks(a, s)
			step, _ := attract.Step(a, s, won)
			later, _ := attract.Step(a, s, won)
			spoil(one, 77)
			for _, with := range []bool{false, true} {
				spoil(step, with)
				if toldBools(won) != wonWas || toldBools(later) != mustStep || told(other) != mustRanks || toldAuto(a) != was {
					t.Fatal(was, s, wonWas, other, later)
				}
			}
			ranks(t, a, s, mustRanks)
			steps(t, a, s, wonWas, mustStep)
		}
	}
}

// roomy tells an automaton whose lists have spare room, in which other things stand.
func roomy(a api.Auto) api.Auto {
	return api.Auto{
		Props:  a.Props,
		Accept: append(slices.Clip(a.Accept), true, false, true)[:len(a.Accept)],
		Guard:  append(slices.Clip(a.Guard), 99, -99, 0)[:len(a.Guard)],
		Nodes:  append(slices.Clip(a.Nodes), api.Node{P: 9, Lo: 9, Hi: 9}, api.Node{}, api.Node{P: -1, Lo: -1, Hi: -1})[:len(a.Nodes)],
	}
}

// whole tells an automaton with what stands in its spare room.
func whole(a api.Auto) api.Auto {
	return api.Auto{Props: a.Props, Accept: a.Accept[:len(a.Accept)+3], Guard: a.Guard[:len(a.Guard)+3], Nodes: a.Nodes[:len(a.Nodes)+3]}
}

func TestNothingHandedInIsChangedOrReadBehindItsEnd(t *testing.T) {
	t.Parallel()
	chance := rand.New(rand.NewSource(14))
	for range 300 {
		n, states := chance.Intn(5), 1+chance.Intn(6)
		a, s := roomy(growAuto(chance, n, states, 3)), growSplit(chance, n)
		was := toldAuto(whole(a))
		asTheModelSays(t, a, s)
		for _, room := range []string{"000", "111", "010"} {
			won := growBools(chance, states, 2)
			all := append(slices.Clone(won), bools(room)...)
			allWas := toldBools(all)
			l, err := attract.Step(a, s, all[:states])
			if !slices.Equal(l, stepOf(a, s, won)) || err != api.OK {
				t.Fatal(was, s, allWas, l, err)
			}
			noStep(t, a, s, all[:states-1], api.ErrArg)
			noStep(t, a, s, all[:0], api.ErrArg)
			noStep(t, a, s, all[:states+1], api.ErrArg)
			if toldBools(all) != allWas {
				t.Fatal(allWas, toldBools(all))
			}
		}
		// One that may not be is refused as it is, whatever stands behind its end.
		less := a
		less.Guard = a.Guard[:states-1]
		refused(t, less, s, api.ErrAuto)
		if toldAuto(whole(a)) != was {
			t.Fatal(was, toldAuto(whole(a)))
		}
	}
}

// TestWhatIsWonMayBeWhatAccepts: one list may be handed in as both.
func TestWhatIsWonMayBeWhatAccepts(t *testing.T) {
	a, s := until(), api.Split{Env: 1, Sys: 2}
	l, err := attract.Step(a, s, a.Accept)
	if toldBools(l) != "101" || err != api.OK || toldBools(a.Accept) != "001" {
		t.Error(l, err, a.Accept)
	}
}

func TestNilAndEmptyAreTheSame(t *testing.T) {
	s := api.Split{Env: 1, Sys: 2}
	for _, l := range [][]api.Node{nil, {}, make([]api.Node, 0, 8)} {
		a := api.Auto{Props: 2, Accept: bools("01"), Guard: []int{-2, -2}, Nodes: l}
		ranks(t, a, s, "1 0")
		steps(t, a, s, "01", "11")
		for _, won := range [][]bool{nil, {}, make([]bool, 0, 8)} {
			noStep(t, a, s, won, api.ErrArg)
			noStep(t, api.Auto{Props: 2, Nodes: l}, s, won, api.ErrAuto)
			noStep(t, api.Auto{Props: 2, Accept: []bool{}, Guard: []int{}, Nodes: l}, s, won, api.ErrAuto)
		}
	}
}

// odd tells a number such as no one asks for.
func odd(chance *rand.Rand) int {
	switch chance.Intn(4) {
	case 0:
		return []int{math.MinInt, math.MaxInt, math.MinInt + 1, math.MaxInt - 1, 1 << 32, -1 << 32, 256, 4096}[chance.Intn(8)]
	case 1:
		return int(chance.Uint64())
	}
	return chance.Intn(9) - 4
}

// oddAuto tells an automaton that may be played, or such as no one asks for.
func oddAuto(chance *rand.Rand) api.Auto {
	if chance.Intn(3) > 0 {
		a := growAuto(chance, chance.Intn(3), 1+chance.Intn(4), 2)
		a.Accept[0] = chance.Intn(4) == 0
		return a
	}
	a := api.Auto{Props: odd(chance), Accept: make([]bool, chance.Intn(4)), Guard: make([]int, chance.Intn(4)), Nodes: make([]api.Node, chance.Intn(3))}
	for i := range a.Guard {
		a.Guard[i] = odd(chance)
	}
	for i := range a.Nodes {
		a.Nodes[i] = api.Node{P: odd(chance), Lo: odd(chance), Hi: odd(chance)}
	}
	return a
}

// refusal tells by the chapter's words what must be told of an automaton, a split and so many that are won.
func refusal(a api.Auto, s api.Split, many int) api.Errno {
	switch {
	case guard.Check(a) != api.OK || a.Accept[0]:
		return api.ErrAuto
	case !isSplit(a.Props, s):
		return api.ErrSplit
	case many != len(a.Accept):
		return api.ErrArg
	}
	return api.OK
}

func TestCallsAreCalm(t *testing.T) {
	t.Parallel()
	chance := rand.New(rand.NewSource(15))
	met := map[api.Errno]int{}
	for range 20000 {
		a := oddAuto(chance)
		s := api.Split{Env: api.Letter(chance.Intn(256)), Sys: api.Letter(chance.Intn(256))}
		if chance.Intn(3) > 0 {
			s = growSplit(chance, min(8, max(0, a.Props)))
		}
		won := growBools(chance, len(a.Accept), 2)
		if chance.Intn(3) == 0 {
			won = growBools(chance, chance.Intn(6), 2)
		}
		must := refusal(a, s, len(won))
		met[must]++
		switch must {
		case api.OK:
			asTheModelSays(t, a, s, won)
		case api.ErrArg:
			ranks(t, a, s, told(ranksOf(a, s)))
			noStep(t, a, s, won, must)
		default:
			noRanks(t, a, s, must)
			noStep(t, a, s, won, must)
		}
		if t.Failed() {
			t.FailNow()
		}
	}
	for _, err := range []api.Errno{api.OK, api.ErrArg, api.ErrAuto, api.ErrSplit} {
		if met[err] < 500 {
			t.Error(err, met[err])
		}
	}
}

func TestAnswersHangOnArgumentsAlone(t *testing.T) {
	t.Parallel()
	chance := rand.New(rand.NewSource(16))
	a, s := growLong(chance, 5, 20), api.Split{Env: 3, Sys: 28}
	won := growBools(chance, 20, 2)
	mustRanks, mustStep := told(ranksOf(a, s)), stepOf(a, s, won)
	var group sync.WaitGroup
	for range 8 {
		group.Go(func() {
			for range 20 {
				ranks(t, a, s, mustRanks)
				refused(t, until(), s, api.ErrSplit)
				if l, err := attract.Step(a, s, won); !slices.Equal(l, mustStep) || err != api.OK {
					t.Error(l, err)
				}
			}
		})
	}
	group.Wait()
}
