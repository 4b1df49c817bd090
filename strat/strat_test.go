package strat_test

import (
	"math"
	"math/rand"
	"slices"
	"strings"
	"sync"
	"testing"

	"rejoinder/api"
	"rejoinder/attract"
	"rejoinder/board"
	"rejoinder/canon"
	"rejoinder/compile"
	"rejoinder/guard"
	"rejoinder/strat"
)

// until tells the automaton of the chapter's examples: p U q.
func until() api.Auto { return auto(2, "001", "2 -2 -3", "1 -2 -3; 1 -1 -3; 0 0 1") }

// tells asks Of, which must tell so.
func tells(t *testing.T, a api.Auto, s api.Split, must api.Strategy) {
	t.Helper()
	if x, err := strat.Of(a, s); toldStrategy(x) != toldStrategy(must) || err != api.OK {
		t.Errorf("Of(%.300s, %v) = %.600s %d, not %.600s", toldAuto(a), s, toldStrategy(x), err, toldStrategy(must))
	}
}

// checks asks Check, which must tell so.
func checks(t *testing.T, a api.Auto, s api.Split, x api.Strategy, must bool) {
	t.Helper()
	if is, err := strat.Check(a, s, x); is != must || err != api.OK {
		t.Errorf("Check(%.300s, %v, %.600s) = %t %d, not %t", toldAuto(a), s, toldStrategy(x), is, err, must)
	}
}

// plays asks Play, which must tell so.
func plays(t *testing.T, a api.Auto, s api.Split, x api.Strategy, moves []api.Letter, must string) {
	t.Helper()
	if l, err := strat.Play(a, s, x, moves); told(l) != must || err != api.OK {
		t.Errorf("Play(%.300s, %v, %.600s, %.100s) = %.300s %d, not %.300s", toldAuto(a), s, toldStrategy(x), told(moves), told(l), err, must)
	}
}

// noPlay asks Play, which must be refused.
func noPlay(t *testing.T, a api.Auto, s api.Split, x api.Strategy, moves []api.Letter, must api.Errno) {
	t.Helper()
	if l, err := strat.Play(a, s, x, moves); l != nil || err != must {
		t.Errorf("Play(%.300s, %v, %.600s, %.100s) = %.300s %d, not %d", toldAuto(a), s, toldStrategy(x), told(moves), told(l), err, must)
	}
}

// broken asks of a strategy that does not keep what it says, whatever is played.
func broken(t *testing.T, a api.Auto, s api.Split, x api.Strategy) {
	t.Helper()
	checks(t, a, s, x, false)
	for _, moves := range [][]api.Letter{nil, {0}, {255}, {0, 1, 2, 3}, make([]api.Letter, 1024), make([]api.Letter, 1025), slices.Repeat([]api.Letter{255}, 1025)} {
		noPlay(t, a, s, x, moves, api.ErrKeeps)
	}
}

// none asks of a strategy that is empty in all.
func none(x api.Strategy) bool {
	return !x.Wins && x.Ranks == nil && x.Reply == nil && x.Choice == nil
}

// refused asks all, which must be refused as board.Check is, whatever the strategy is and what is played.
func refused(t *testing.T, a api.Auto, s api.Split, must api.Errno) {
	t.Helper()
	if err := board.Check(a, s); err != must {
		t.Errorf("board.Check(%.300s, %v) = %d, not %d", toldAuto(a), s, err, must)
	}
	if x, err := strat.Of(a, s); !none(x) || err != must {
		t.Errorf("Of(%.300s, %v) = %.600s %d, not %d", toldAuto(a), s, toldStrategy(x), err, must)
	}
	n := len(a.Accept)
	good, _ := strat.Of(until(), api.Split{Env: 1, Sys: 2})
	for _, x := range []api.Strategy{
		{},
		good,
		{Ranks: slices.Repeat([]int{-1}, n), Reply: make([][]api.Letter, n), Choice: make([]api.Letter, n)},
		{Wins: true, Ranks: make([]int, n), Reply: make([][]api.Letter, n), Choice: make([]api.Letter, n)},
	} {
		if is, err := strat.Check(a, s, x); is || err != must {
			t.Errorf("Check(%.300s, %v, %.600s) = %t %d, not %d", toldAuto(a), s, toldStrategy(x), is, err, must)
		}
		for _, moves := range [][]api.Letter{nil, {0}, {255}, make([]api.Letter, 1025)} {
			noPlay(t, a, s, x, moves, must)
		}
	}
}

// asTheModelSays asks for the strategy, which must keep what it says.
func asTheModelSays(t *testing.T, a api.Auto, s api.Split) {
	t.Helper()
	x := strategyOf(a, s)
	if l := faults(a, s, x); len(l) > 0 {
		t.Fatal(toldAuto(a), s, l)
	}
	tells(t, a, s, x)
	checks(t, a, s, x, true)
	if t.Failed() {
		t.FailNow()
	}
}

// compiled tells the automaton of a formula's text.
func compiled(t *testing.T, names []string, text string) api.Auto {
	t.Helper()
	a, fault := compile.Text(names, text)
	if fault.Err != api.OK {
		t.Fatal(text, fault)
	}
	return a
}

// The chapter's examples

func TestExamples(t *testing.T) {
	a, err := compile.Tokens(2, []api.Tok{{Op: api.Prop}, {Op: api.Prop, P: 1}, {Op: api.Until}})
	if !canon.Same(a, until()) || err != api.OK {
		t.Fatal(toldAuto(a), err)
	}
	one, two := api.Split{Env: 1, Sys: 2}, api.Split{Env: 2, Sys: 1}
	first := strategy("sys", "1 -1 0", "2 2;;", "0 0 0")
	second := strategy("env", "-1 -1 0", ";;", "0 0 0")
	tells(t, a, one, first)
	tells(t, a, two, second)
	plays(t, a, one, first, letters("1 0"), "0 2")
	plays(t, a, two, second, letters("1 0 1"), "0 0 1 1")
	noPlay(t, a, one, first, letters("2"), api.ErrMove)
	checks(t, a, one, second, false)
	for _, moves := range [][]api.Letter{nil, letters("1 0"), letters("2")} {
		noPlay(t, a, one, second, moves, api.ErrKeeps)
	}
}

// TestExamplesOfTheWhole: those of the whole document that speak of this layer.
func TestExamplesOfTheWhole(t *testing.T) {
	both := []string{"p", "q"}
	one := api.Split{Env: 1, Sys: 2}
	// p is answered by q, and one round is a trace.
	a := compiled(t, both, "G (p <-> q)")
	x, err := strat.Of(a, one)
	if err != api.OK || !x.Wins || x.Ranks[0] != 1 || told(x.Reply[0]) != "0 2" {
		t.Error(toldStrategy(x), err)
	}
	// The environment never chooses p.
	b := compiled(t, both, "F (p & q)")
	y, err := strat.Of(b, one)
	if err != api.OK || y.Wins || y.Ranks[0] != -1 || y.Choice[0] != 0 {
		t.Error(toldStrategy(y), err)
	}
	plays(t, b, one, y, letters("2 0 2 2"), "0 0 0 0 0")
	c := compiled(t, []string{"q"}, "X X q")
	if z, err := strat.Of(c, api.Split{Env: 1}); err != api.OK || z.Wins {
		t.Error(toldStrategy(z), err)
	}
	if z, err := strat.Of(c, api.Split{Sys: 1}); err != api.OK || !z.Wins || z.Ranks[0] != 3 {
		t.Error(toldStrategy(z), err)
	}
}

// P24.1 and P24.2: board.Check's error ahead of all

func TestAutomataThatMayNotBe(t *testing.T) {
	good := api.Split{Env: 1, Sys: 2}
	for _, a := range []api.Auto{
		{},
		{Props: 2},
		auto(-1, "01", "-2 -2", ""),
		auto(9, "01", "-2 -2", ""),
		auto(math.MaxInt, "01", "-2 -2", ""),
		// Unlike numbers of states and guards; too many of both.
		auto(2, "01", "-2", ""),
		auto(2, "01", "-2 -2 -2", ""),
		auto(2, "0", "-1 -1", ""),
		idle(2, 257),
		// Guards, nodes, and their sides, that are not there.
		auto(2, "01", "-3 -2", ""),
		auto(2, "01", "0 -2", ""),
		auto(2, "01", "1 -2", "0 -1 -2"),
		auto(2, "01", "0 -2", "2 -1 -2"),
		auto(2, "01", "0 -2", "-1 -1 -2"),
		auto(2, "01", "0 -2", "0 -1 -1"),
		auto(2, "01", "0 -2", "0 -1 -3"),
		auto(2, "01", "0 -2", "0 -1 0"),
		auto(2, "01", "0 -2", "0 -1 -2; 0 -1 -2"),
		auto(2, "01", "-2 -2", "1 -1 -2; 1 0 -1"),
		{Props: 2, Accept: bools("01"), Guard: []int{math.MinInt, math.MaxInt}},
	} {
		if guard.Check(a) != api.ErrAuto {
			t.Errorf("%.300s may be", toldAuto(a))
		}
		refused(t, a, good, api.ErrAuto)
		refused(t, a, api.Split{}, api.ErrAuto)
		refused(t, a, api.Split{Env: 255, Sys: 255}, api.ErrAuto)
	}
}

func TestAutomataWhoseStateZeroAccepts(t *testing.T) {
	for n := range 9 {
		all := api.Letter(1<<n - 1)
		for states := 1; states < 5; states++ {
			a := idle(n, states)
			a.Accept[0] = true
			for _, s := range []api.Split{{}, {Env: all}, {Sys: all}, {Env: 255, Sys: 255}} {
				refused(t, a, s, api.ErrAuto)
				// Not what would keep what it says, if the state 0 might accept.
				x := api.Strategy{Wins: true, Ranks: make([]int, states), Reply: make([][]api.Letter, states), Choice: make([]api.Letter, states)}
				for q := 1; q < states-1; q++ {
					x.Ranks[q] = states - 1 - q
					x.Reply[q] = make([]api.Letter, len(choices(s.Env)))
				}
				if is, err := strat.Check(a, s, x); is || err != api.ErrAuto {
					t.Error(toldAuto(a), s, is, err)
				}
				noPlay(t, a, s, x, nil, api.ErrAuto)
			}
			// The same, but for the state 0.
			a.Accept[0] = false
			asTheModelSays(t, a, api.Split{Env: all})
			asTheModelSays(t, a, api.Split{Sys: all})
		}
	}
}

func TestSplitsThatMayNotBe(t *testing.T) {
	t.Parallel()
	for n := range 9 {
		a := idle(n, 3)
		chance := rand.New(rand.NewSource(1))
		for range 200 {
			s := api.Split{Env: api.Letter(chance.Intn(256)), Sys: api.Letter(chance.Intn(256))}
			if !isSplit(n, s) {
				refused(t, a, s, api.ErrSplit)
			}
		}
		for _, s := range splitsOf(min(n, 5)) {
			s.Sys |= api.Letter(1<<n-1) &^ 31
			asTheModelSays(t, a, s)
			refused(t, a, api.Split{Env: s.Env ^ 1, Sys: s.Sys}, api.ErrSplit)
			refused(t, a, api.Split{Env: s.Env, Sys: s.Sys ^ 128}, api.ErrSplit)
		}
	}
	for _, s := range []api.Split{{}, {Env: 1}, {Sys: 2}, {Env: 3, Sys: 3}, {Env: 1, Sys: 3}, {Env: 1, Sys: 6}, {Env: 129, Sys: 2}, {Env: 255}} {
		refused(t, until(), s, api.ErrSplit)
	}
}

// P24.1: Of

// many tells an automaton with states of all kinds: 0 has the rank 2, 1 the rank 1, where the environment has p; 2 accepts, and so do 5 and 6, which are not reached; 3 is kept by p alone, 4 and 7 by any choice.
func many() api.Auto {
	return leads(2, "00100110", "4 1 1 2; 2 3 2 2; 2*4; 2 3 4 4; 4*4; 3 2 0 1; 3 2 4 1; 7*4")
}

// ofMany tells its strategy, where the environment has p.
func ofMany() api.Strategy {
	return strategy("sys", "2 1 0 -1 -1 0 0 -1", "2 2; 0 2;;;;;;", "0 0 0 1 0 0 0 0")
}

func TestOf(t *testing.T) {
	env, sys := api.Split{Env: 1, Sys: 2}, api.Split{Env: 2, Sys: 1}
	tells(t, many(), env, ofMany())
	for _, c := range []struct {
		accept, rows string
		s            api.Split
		must         api.Strategy
	}{
		// The system answers p by q; where the environment has q it answers q by p.
		{"01", "1 0 0 1; 1*4", env, strategy("sys", "1 0", "0 2;", "0 0")},
		{"01", "1 0 0 1; 1*4", sys, strategy("sys", "1 0", "0 1;", "0 0")},
		// Both answers are as good: the first stands.
		{"01", "1 1 1 1; 1*4", env, strategy("sys", "1 0", "0 0;", "0 0")},
		{"01", "1 0 1 1; 1*4", env, strategy("sys", "1 0", "0 2;", "0 0")},
		{"01", "0 1 1 1; 1*4", env, strategy("sys", "1 0", "2 0;", "0 0")},
		// Several states of one least rank: not the lesser state stands, but the lesser answer.
		{"0111", "3 1 2 2; 0*4; 0*4; 0*4", env, strategy("sys", "1 0 0 0", "0 0;;;", "0 0 0 0")},
		{"0111", "0 3 3 1; 0*4; 0*4; 0*4", env, strategy("sys", "1 0 0 0", "2 0;;;", "0 0 0 0")},
		// The least rank is taken, though the first answer leads to a greater one, and -1 is none.
		{"0010", "1 1 2 2; 2*4; 2*4; 3*4", env, strategy("sys", "1 1 0 -1", "2 2; 0 0;;", "0 0 0 0")},
		{"0010", "3 3 1 1; 2*4; 2*4; 3*4", env, strategy("sys", "2 1 0 -1", "2 2; 0 0;;", "0 0 0 0")},
		{"0010", "3 2 1 1; 2*4; 2*4; 3*4", env, strategy("sys", "2 1 0 -1", "2 0; 0 0;;", "0 0 0 0")},
		// A rank that has fallen further than it must: by p at once, else by the state 1.
		{"001", "1 2 1 2; 2*4; 2*4", env, strategy("sys", "2 1 0", "0 0; 0 0;", "0 0 0")},
		// Without p no q leads on: the environment chooses what keeps it, the first of what does.
		{"01", "0 1 0 1; 1*4", env, strategy("env", "-1 0", ";", "0 0")},
		{"01", "1 0 1 0; 1*4", env, strategy("env", "-1 0", ";", "1 0")},
		{"01", "0 0 1 0; 1*4", env, strategy("env", "-1 0", ";", "1 0")},
		{"01", "0*4; 1*4", env, strategy("env", "-1 0", ";", "0 0")},
		{"01", "1 0 0 0; 1*4", sys, strategy("env", "-1 0", ";", "2 0")},
		{"01", "0 1 0 1; 1*4", sys, strategy("sys", "1 0", "1 1;", "0 0")},
		// Of all states, whoever wins: replies where the environment wins, choices where the system does; of states that are not reached, too.
		{"0001", "0*4; 2*4; 3*4; 0*4", env, strategy("env", "-1 2 1 0", "; 0 0; 0 0;", "0 0 0 0")},
		{"0001", "0*4; 2 3 3 2; 0 3 3 0; 0*4", env, strategy("env", "-1 1 1 0", "; 2 0; 2 0;", "0 0 0 0")},
		{"0100", "1*4; 3*4; 1 3 3 3; 3*4", env, strategy("sys", "1 0 -1 -1", "0 0;;;", "0 0 1 0")},
		// What accepts has no reply and no choice, wherever it leads.
		{"0110", "1*4; 3*4; 1 3 3 3; 3*4", env, strategy("sys", "1 0 0 -1", "0 0;;;", "0 0 0 0")},
	} {
		a := leads(2, c.accept, c.rows)
		tells(t, a, c.s, c.must)
		checks(t, a, c.s, c.must, true)
	}
}

func TestOneSideHasNoProposition(t *testing.T) {
	// The system alone: one answer; the first of those that are as good.
	a := leads(2, "00001", "1 2 1 2; 3*4; 4 0 0 4; 4*4; 4*4")
	tells(t, a, api.Split{Sys: 3}, strategy("sys", "2 2 1 1 0", "1; 0; 0; 0;", "0*5"))
	// The environment alone: the system's one answer is that it has none; the first choice that keeps it.
	tells(t, a, api.Split{Env: 3}, strategy("env", "-1 2 -1 1 0", "; 0 0 0 0;; 0 0 0 0;", "1 0 1 0 0"))
	b := leads(2, "01", "1 1 1 0; 1*4")
	tells(t, b, api.Split{Env: 3}, strategy("env", "-1 0", ";", "3 0"))
	tells(t, b, api.Split{Sys: 3}, strategy("sys", "1 0", "0;", "0 0"))
	c := leads(2, "01", "0 0 0 1; 1*4")
	tells(t, c, api.Split{Env: 3}, strategy("env", "-1 0", ";", "0 0"))
	tells(t, c, api.Split{Sys: 3}, strategy("sys", "1 0", "3;", "0 0"))
	chance := rand.New(rand.NewSource(2))
	for range 200 {
		n := 1 + chance.Intn(4)
		d := growAny(chance, n, 1+chance.Intn(6))
		all := api.Letter(1<<n - 1)
		asTheModelSays(t, d, api.Split{Env: all})
		asTheModelSays(t, d, api.Split{Sys: all})
	}
}

func TestNoProposition(t *testing.T) {
	nobody := api.Split{}
	for _, c := range []struct {
		accept, guards string
		must           api.Strategy
		moves, states  string
	}{
		{"0", "-1", strategy("env", "-1", " ", "0"), "0 0", "0 0 0"},
		{"01", "-2 -2", strategy("sys", "1 0", "0;", "0 0"), "0 0", "0 1"},
		{"01", "-1 -1", strategy("env", "-1 0", ";", "0 0"), "0", "0 0"},
		{"0001", "-2 -3 -4 -1", strategy("sys", "3 2 1 0", "0; 0; 0;", "0*4"), "0*5", "0 1 2 3"},
		{"0101", "-3 -1 -4 -1", strategy("sys", "2 0 1 0", "0;; 0;", "0*4"), "0*2", "0 2 3"},
	} {
		a := auto(0, c.accept, c.guards, "")
		tells(t, a, nobody, c.must)
		checks(t, a, nobody, c.must, true)
		plays(t, a, nobody, c.must, letters(c.moves), c.states)
		for move := 1; move < 256; move++ {
			noPlay(t, a, nobody, c.must, []api.Letter{api.Letter(move)}, api.ErrMove)
		}
		for _, s := range []api.Split{{Env: 1}, {Sys: 1}, {Env: 255, Sys: 255}} {
			refused(t, a, s, api.ErrSplit)
		}
	}
	refused(t, auto(0, "1", "-1", ""), nobody, api.ErrAuto)
}

// rowsOf tells all lists of so many states.
func rowsOf(many, states int) [][]int {
	if many == 0 {
		return [][]int{nil}
	}
	var lists [][]int
	for _, l := range rowsOf(many-1, states) {
		for q := range states {
			lists = append(lists, append(slices.Clip(l), q))
		}
	}
	return lists
}

// eachAuto goes over the automata of so many propositions and states whose state 0 does not accept.
func eachAuto(n, states int, do func(api.Auto)) {
	for _, where := range rowsOf(states<<n, states) {
		rows := slices.Collect(slices.Chunk(where, 1<<n))
		for set := 0; set < 1<<states; set += 2 {
			accept := make([]bool, states)
			for q := range accept {
				accept[q] = set>>q%2 == 1
			}
			do(built(n, accept, rows))
		}
	}
}

// TestAllAutomataOfFewStates: of three states over one proposition, and of two over two, each.
func TestAllAutomataOfFewStates(t *testing.T) {
	t.Parallel()
	for _, c := range [][2]int{{0, 4}, {1, 3}, {2, 2}} {
		eachAuto(c[0], c[1], func(a api.Auto) {
			for _, s := range splitsOf(c[0]) {
				asTheModelSays(t, a, s)
			}
		})
	}
}

func TestAutomataOfChance(t *testing.T) {
	t.Parallel()
	chance := rand.New(rand.NewSource(3))
	later := 0
	for range 1000 {
		n, states := chance.Intn(5), 1+chance.Intn(12)
		a := growAny(chance, n, states)
		for _, s := range splitsOf(n) {
			asTheModelSays(t, a, s)
			for _, choice := range strategyOf(a, s).Choice {
				if choice != 0 {
					later++
				}
			}
		}
	}
	if later < 1000 {
		t.Error(later)
	}
}

func TestAutomataOfFormulas(t *testing.T) {
	t.Parallel()
	few := []string{"p", "q", "r"}
	for _, text := range []string{"true", "false", "F last", "p", "X p", "N p", "X X X p", "p U q", "p R q", "G (p <-> q)", "F (p & q & r)", "G (p -> X q)", "F p & F q & F r", "<({p} ; {q})*> r", "G F p", "p <-> (q <-> r)", "X X q & G (p -> N r)"} {
		a := compiled(t, few, text)
		for _, s := range splitsOf(3) {
			asTheModelSays(t, a, s)
			x, _ := strat.Of(a, s)
			wins, err := attract.Wins(a, s)
			if ranks, _ := attract.Ranks(a, s); wins != x.Wins || err != api.OK || !slices.Equal(ranks, x.Ranks) {
				t.Fatal(text, s, wins, ranks, toldStrategy(x))
			}
		}
	}
}

// P24.1: Check

// changed tells a strategy that was changed in its own memory.
func changed(x api.Strategy, by func(*api.Strategy)) api.Strategy {
	x = copied(x)
	by(&x)
	return x
}

// aloneBroken asks of a strategy that breaks one condition alone.
func aloneBroken(t *testing.T, a api.Auto, s api.Split, x api.Strategy, must string) {
	t.Helper()
	if l := strings.Join(faults(a, s, x), ", "); l != must {
		t.Errorf("%.300s, %v, %.600s: %s, not %s", toldAuto(a), s, toldStrategy(x), l, must)
	}
	broken(t, a, s, x)
}

// TestListsThatAreTooShortOrTooLong: Ranks, Reply, Choice, each by itself.
func TestListsThatAreTooShortOrTooLong(t *testing.T) {
	a, s := many(), api.Split{Env: 1, Sys: 2}
	for _, more := range []int{-8, -7, -2, -1, 1, 2, 8, 248, 4096} {
		n := 8 + more
		ranks := slices.Concat(ofMany().Ranks, slices.Repeat([]int{-1}, 4096))[:n]
		replies := slices.Concat(ofMany().Reply, make([][]api.Letter, 4096))[:n]
		list := slices.Concat(ofMany().Choice, make([]api.Letter, 4096))[:n]
		x := ofMany()
		x.Ranks = ranks
		aloneBroken(t, a, s, x, "ranks")
		x = ofMany()
		x.Reply = replies
		aloneBroken(t, a, s, x, "replies")
		x = ofMany()
		x.Choice = list
		aloneBroken(t, a, s, x, "choices")
		broken(t, a, s, api.Strategy{Wins: true, Ranks: ranks, Reply: replies, Choice: list})
	}
	for _, x := range []api.Strategy{{}, {Wins: true}, {Ranks: []int{}, Reply: [][]api.Letter{}, Choice: []api.Letter{}}} {
		broken(t, a, s, x)
		broken(t, auto(0, "0", "-1", ""), api.Split{}, x)
	}
}

// TestStrategiesThatBreakOneConditionAlone, but for the lengths of lists.
func TestStrategiesThatBreakOneConditionAlone(t *testing.T) {
	a, s := many(), api.Split{Env: 1, Sys: 2}
	type st = api.Strategy
	for _, c := range []struct {
		must string
		by   func(x *st)
	}{
		{"wins", func(x *st) { x.Wins = false }},
		// A rank 0 of what does not accept.
		{"zero 1", func(x *st) { x.Ranks[1], x.Reply[1] = 0, nil }},
		{"zero 7", func(x *st) { x.Ranks[7] = 0 }},
		// Another rank of what does, though by its reply it falls, and its choice keeps it.
		{"zero 5", func(x *st) { x.Ranks[5], x.Reply[5] = 3, letters("2 0") }},
		{"zero 5", func(x *st) { x.Ranks[5], x.Reply[5] = math.MaxInt, letters("2 2") }},
		{"zero 6", func(x *st) { x.Ranks[6] = -1 }},
		// Below -1.
		{"below 7", func(x *st) { x.Ranks[7] = -2 }},
		{"below 7", func(x *st) { x.Ranks[7] = math.MinInt }},
		// By a reply the rank does not fall: to a state of the same rank, of a greater one, of the rank -1.
		{"falls 0", func(x *st) { x.Ranks[0] = 1 }},
		{"falls 0", func(x *st) { x.Ranks[1] = 2 }},
		{"falls 0", func(x *st) { x.Ranks[1] = 3 }},
		{"falls 0", func(x *st) { x.Ranks[1] = math.MaxInt }},
		{"falls 0", func(x *st) { x.Reply[0][0] = 0 }},
		{"falls 1", func(x *st) { x.Reply[1][1] = 0 }},
		{"falls 1", func(x *st) { x.Reply[1][1], x.Ranks[0], x.Ranks[1] = 0, 4, 3 }},
		// A reply that is no choice of the system's: with a bit of the environment's, one of nobody's, beside what would lead on.
		{"foreign 1", func(x *st) { x.Reply[1][1] = 3 }},
		{"foreign 1", func(x *st) { x.Reply[1][1] = 130 }},
		{"foreign 1", func(x *st) { x.Reply[1][0] = 4 }},
		{"foreign 0", func(x *st) { x.Reply[0][1] = 1 }},
		{"foreign 0", func(x *st) { x.Reply[0][1] = 255 }},
		// Replies that are too few or too many.
		{"many 0", func(x *st) { x.Reply[0] = nil }},
		{"many 0", func(x *st) { x.Reply[0] = letters("2") }},
		{"many 0", func(x *st) { x.Reply[0] = letters("2 2 2") }},
		{"many 1", func(x *st) { x.Reply[1] = letters("0 2 0 2") }},
		{"many 1", func(x *st) { x.Reply[1] = make([]api.Letter, 256) }},
		// A reply where there must be none: of what accepts, of what is kept, of what is not reached.
		{"reply 2", func(x *st) { x.Reply[2] = letters("0 0") }},
		{"reply 2", func(x *st) { x.Reply[2] = letters("0") }},
		{"reply 4", func(x *st) { x.Reply[4] = letters("0 0") }},
		{"reply 5", func(x *st) { x.Reply[5] = letters("2 0") }},
		{"reply 7", func(x *st) { x.Reply[7] = letters("255") }},
		// A choice that is no choice of the environment's, though by it the rank would stay.
		{"stranger 3", func(x *st) { x.Choice[3] = 3 }},
		{"stranger 3", func(x *st) { x.Choice[3] = 129 }},
		{"stranger 4", func(x *st) { x.Choice[4] = 2 }},
		{"stranger 7", func(x *st) { x.Choice[7] = 255 }},
		{"stranger 7", func(x *st) { x.Choice[7] = 4 }},
		// One by which some answer leads out.
		{"stays 3", func(x *st) { x.Choice[3] = 0 }},
		{"stays 1", func(x *st) {
			x.Wins, x.Ranks[0], x.Ranks[1], x.Reply[0], x.Reply[1] = false, -1, -1, nil, nil
		}},
		// One that is not 0 where it must be 0.
		{"choice 0", func(x *st) { x.Choice[0] = 1 }},
		{"choice 1", func(x *st) { x.Choice[1] = 1 }},
		{"choice 2", func(x *st) { x.Choice[2] = 1 }},
		{"choice 5", func(x *st) { x.Choice[5] = 128 }},
		{"choice 6", func(x *st) { x.Choice[6] = 2 }},
	} {
		aloneBroken(t, a, s, changed(ofMany(), c.by), c.must)
	}
	checks(t, a, s, ofMany(), true)
}

// TestWinsTurnedRound: of either side's strategy, and nothing else of it.
func TestWinsTurnedRound(t *testing.T) {
	chance := rand.New(rand.NewSource(4))
	for range 300 {
		n := chance.Intn(4)
		a, s := growAny(chance, n, 1+chance.Intn(6)), growSplit(chance, n)
		x := strategyOf(a, s)
		checks(t, a, s, x, true)
		x.Wins = !x.Wins
		aloneBroken(t, a, s, x, "wins")
	}
}

func TestOtherStrategiesThatKeepWhatTheySay(t *testing.T) {
	a, s := many(), api.Split{Env: 1, Sys: 2}
	type st = api.Strategy
	for _, by := range []func(*st){
		// Greater ranks.
		func(x *st) { x.Ranks[0] = 3 },
		func(x *st) { x.Ranks[0] = math.MaxInt },
		func(x *st) { x.Ranks[0], x.Ranks[1] = 5, 4 },
		func(x *st) { x.Ranks[0], x.Ranks[1] = math.MaxInt, math.MaxInt-1 },
		// Other replies: one that leads further round, one that is as good.
		func(x *st) { x.Reply[0][1] = 0 },
		func(x *st) { x.Reply[1][0] = 2 },
		func(x *st) { x.Reply[0][1], x.Reply[1][0], x.Ranks[0] = 0, 2, 300 },
		// Other choices.
		func(x *st) { x.Choice[4] = 1 },
		func(x *st) { x.Choice[7] = 1 },
		func(x *st) { x.Choice[4], x.Choice[7] = 1, 1 },
		// No replies, as empty lists.
		func(x *st) {
			for _, q := range []int{2, 3, 4, 5, 6, 7} {
				x.Reply[q] = make([]api.Letter, 0, 4)
			}
		},
		// One list may stand twice.
		func(x *st) { x.Reply[1] = letters("2 2"); x.Reply[0] = x.Reply[1] },
	} {
		x := changed(ofMany(), by)
		if l := faults(a, s, x); len(l) > 0 {
			t.Error(toldStrategy(x), l)
		}
		checks(t, a, s, x, true)
	}
}

// someLists tells few lists of replies: such as are of 0 to 2 letters, of so many propositions and one more.
func someLists(n int) [][]api.Letter {
	lists := [][]api.Letter{nil}
	for one := range 1<<n + 1 {
		lists = append(lists, []api.Letter{api.Letter(one)})
		for other := range 1<<n + 1 {
			lists = append(lists, []api.Letter{api.Letter(one), api.Letter(other)})
		}
	}
	return lists
}

// eachStrategy goes over many strategies of two states: ranks from -2 to 2, few replies, few choices.
func eachStrategy(n int, do func(api.Strategy)) {
	replies := someLists(n)
	x := api.Strategy{Ranks: make([]int, 2), Reply: make([][]api.Letter, 2), Choice: make([]api.Letter, 2)}
	for i := range 25 * 9 * 2 {
		x.Ranks[0], x.Ranks[1] = i%5-2, i/5%5-2
		x.Choice[0], x.Choice[1] = api.Letter(i/25%3), api.Letter(i/75%3)
		x.Wins = i/225 == 1
		for _, first := range replies {
			for _, second := range replies {
				x.Reply[0], x.Reply[1] = first, second
				do(x)
			}
		}
	}
}

// TestAllStrategiesOfTwoStates: of each automaton of two states over one proposition, and of some over none.
func TestAllStrategiesOfTwoStates(t *testing.T) {
	t.Parallel()
	for n := range 2 {
		kept := 0
		eachAuto(n, 2, func(a api.Auto) {
			for _, s := range splitsOf(n) {
				eachStrategy(n, func(x api.Strategy) {
					must := len(faults(a, s, x)) == 0
					if is, err := strat.Check(a, s, x); is != must || err != api.OK {
						t.Fatal(toldAuto(a), s, toldStrategy(x), is, err, must)
					}
					if must {
						kept++
					}
				})
			}
		})
		if kept < 8 {
			t.Error(n, kept)
		}
	}
}

// twist changes one thing of a strategy by chance.
func twist(chance *rand.Rand, x *api.Strategy) {
	q := chance.Intn(len(x.Ranks))
	switch chance.Intn(9) {
	case 0:
		x.Wins = !x.Wins
	case 1:
		x.Ranks[q] += chance.Intn(5) - 2
	case 2:
		x.Ranks[q] = x.Ranks[chance.Intn(len(x.Ranks))]
	case 3:
		x.Choice[q] = api.Letter(chance.Intn(8))
	case 4:
		x.Choice[q] ^= api.Letter(1 << chance.Intn(8))
	case 5:
		x.Reply[q] = append(x.Reply[q], api.Letter(chance.Intn(4)))
	case 6:
		x.Reply[q] = x.Reply[chance.Intn(len(x.Reply))]
	default:
		if many := len(x.Reply[q]); many > 0 {
			x.Reply[q] = slices.Clone(x.Reply[q])
			x.Reply[q][chance.Intn(many)] ^= api.Letter(1 << chance.Intn(4))
		}
	}
}

func TestTwistedStrategies(t *testing.T) {
	t.Parallel()
	chance := rand.New(rand.NewSource(5))
	met := map[string]int{}
	for range 20000 {
		n := chance.Intn(4)
		a, s := growAny(chance, n, 1+chance.Intn(6)), growSplit(chance, n)
		x := growStrategy(chance, a, s)
		if chance.Intn(2) == 0 {
			x = strategyOf(a, s)
		}
		checks(t, a, s, x, true)
		twist(chance, &x)
		l := faults(a, s, x)
		name := "kept"
		if len(l) > 0 {
			name, _, _ = strings.Cut(l[0], " ")
			noPlay(t, a, s, x, growMoves(chance, s.Env|s.Sys, chance.Intn(4)), api.ErrKeeps)
		}
		met[name]++
		checks(t, a, s, x, len(l) == 0)
		if t.Failed() {
			t.FailNow()
		}
	}
	for _, name := range []string{"kept", "wins", "zero", "below", "many", "foreign", "falls", "reply", "stranger", "stays", "choice"} {
		if met[name] < 50 {
			t.Error(name, met[name])
		}
	}
}

// P24.2

func TestPlay(t *testing.T) {
	a, s := many(), api.Split{Env: 1, Sys: 2}
	x := ofMany()
	// By the choice 0 the system leads to the state 1, by the choice 1 at once to one that accepts.
	plays(t, a, s, x, letters("0"), "0 1")
	plays(t, a, s, x, letters("1"), "0 2")
	plays(t, a, s, x, letters("0 0"), "0 1 2")
	plays(t, a, s, x, letters("0 1"), "0 1 2")
	plays(t, a, s, x, letters("0 1 1 0"), "0 1 2")
	// By other replies, which keep what they say, the play goes otherwise.
	plays(t, a, s, changed(x, func(x *api.Strategy) { x.Reply[0][1] = 0 }), letters("1 1"), "0 1 2")
	// The environment says its choice: it is told of each state by itself.
	b := leads(2, "0001", "0 1 3 2; 3 3 2 0; 0 2 1 1; 3*4")
	y := strategy("env", "-1 -1 -1 0", ";;;", "1 2 1 0")
	if l := faults(b, api.Split{Env: 3}, y); len(l) > 0 {
		t.Fatal(l)
	}
	plays(t, b, api.Split{Env: 3}, y, letters("0*5"), "0 1 2 2 2 2")
	c := leads(2, "0001", "3 1 3 2; 2 1 0 1; 3 0 3 2; 3*4")
	z := strategy("env", "-1 -1 -1 0", ";;;", "1 0 1 0")
	plays(t, c, s, z, letters("0 0 0 2 2 0"), "0 1 2 0 2 2 0")
	plays(t, c, s, z, letters("2 0 0 2 2"), "0 2 0 1 0 2")
}

func TestNoMoves(t *testing.T) {
	chance := rand.New(rand.NewSource(6))
	for range 200 {
		n := chance.Intn(4)
		a, s := growAny(chance, n, 1+chance.Intn(6)), growSplit(chance, n)
		for _, moves := range [][]api.Letter{nil, {}, make([]api.Letter, 0, 8)} {
			plays(t, a, s, strategyOf(a, s), moves, "0")
			plays(t, a, s, growStrategy(chance, a, s), moves, "0")
		}
	}
}

func TestMovesThatAreNoChoiceOfTheOtherSides(t *testing.T) {
	a, one, two := until(), api.Split{Env: 1, Sys: 2}, api.Split{Env: 2, Sys: 1}
	first := strategy("sys", "1 -1 0", "2 2;;", "0 0 0")
	second := strategy("env", "-1 -1 0", ";;", "0 0 0")
	for move := range 256 {
		l := []api.Letter{api.Letter(move)}
		if move < 2 {
			plays(t, a, one, first, l, "0 2")
			plays(t, a, two, second, l, []string{"0 1", "0 0"}[move])
			continue
		}
		// Of the strategy's own side, of both, of nobody.
		noPlay(t, a, one, first, l, api.ErrMove)
		noPlay(t, a, two, second, l, api.ErrMove)
		// Behind the first move the play is over for the one, and goes on for the other.
		plays(t, a, one, first, []api.Letter{1, api.Letter(move)}, "0 2")
		plays(t, a, one, first, []api.Letter{0, 1, api.Letter(move), 0}, "0 2")
		noPlay(t, a, two, second, []api.Letter{1, api.Letter(move)}, api.ErrMove)
		noPlay(t, a, two, second, []api.Letter{0, 1, api.Letter(move), 0}, api.ErrMove)
		noPlay(t, a, two, second, append(make([]api.Letter, 1023), api.Letter(move)), api.ErrMove)
	}
	// The first that is played: a play is over only where it accepts.
	b, x := many(), ofMany()
	plays(t, b, one, x, letters("0 0 2"), "0 1 2")
	plays(t, b, one, x, letters("1 2"), "0 2")
	noPlay(t, b, one, x, letters("0 2"), api.ErrMove)
	noPlay(t, b, one, x, letters("0 2 0"), api.ErrMove)
	noPlay(t, b, one, x, letters("2 0 0"), api.ErrMove)
	noPlay(t, b, one, x, letters("128"), api.ErrMove)
}

func TestHowManyMovesThereMayBe(t *testing.T) {
	a, one, two := until(), api.Split{Env: 1, Sys: 2}, api.Split{Env: 2, Sys: 1}
	first := strategy("sys", "1 -1 0", "2 2;;", "0 0 0")
	second := strategy("env", "-1 -1 0", ";;", "0 0 0")
	zeros := make([]api.Letter, 1<<16)
	ones := slices.Repeat([]api.Letter{1}, 1<<16)
	for _, many := range []int{1022, 1023, 1024} {
		plays(t, a, one, first, zeros[:many], "0 2")
		plays(t, a, two, second, ones[:many], told(make([]int, many+1)))
		plays(t, a, two, second, zeros[:many], told(append([]int{0}, slices.Repeat([]int{1}, many)...)))
	}
	for _, many := range []int{1025, 1026, 2048, 1 << 16} {
		// Though the play is over by the first of them, though the first of them may not be, though all may not be.
		noPlay(t, a, one, first, zeros[:many], api.ErrLong)
		noPlay(t, a, two, second, ones[:many], api.ErrLong)
		noPlay(t, a, one, first, slices.Repeat([]api.Letter{255}, many), api.ErrLong)
		noPlay(t, a, two, second, append([]api.Letter{2}, zeros[:many-1]...), api.ErrLong)
		// A strategy that does not keep what it says is told ahead of that; what may not be played ahead of both.
		noPlay(t, a, one, second, zeros[:many], api.ErrKeeps)
		noPlay(t, a, two, first, zeros[:many], api.ErrKeeps)
		noPlay(t, a, api.Split{Env: 1}, first, zeros[:many], api.ErrSplit)
		noPlay(t, api.Auto{}, api.Split{Env: 1}, first, zeros[:many], api.ErrAuto)
	}
	noPlay(t, a, one, second, letters("255"), api.ErrKeeps)
	noPlay(t, a, one, first, slices.Repeat([]api.Letter{255}, 1024), api.ErrMove)
}

func TestPlaysBesideTheModel(t *testing.T) {
	t.Parallel()
	chance := rand.New(rand.NewSource(7))
	met := map[api.Errno]int{}
	for range 10000 {
		n := chance.Intn(4)
		a, s := growAny(chance, n, 1+chance.Intn(8)), growSplit(chance, n)
		x := growStrategy(chance, a, s)
		if chance.Intn(2) == 0 {
			x = strategyOf(a, s)
		}
		if chance.Intn(8) == 0 {
			twist(chance, &x)
		}
		moves := growMoves(chance, mover(s, x), chance.Intn(8))
		if len(moves) > 0 && chance.Intn(3) == 0 {
			moves[chance.Intn(len(moves))] ^= api.Letter(1 << chance.Intn(8))
		}
		l, err := playOf(a, s, x, moves)
		met[err]++
		if err == api.OK {
			plays(t, a, s, x, moves, told(l))
		} else {
			noPlay(t, a, s, x, moves, err)
		}
		if t.Failed() {
			t.FailNow()
		}
	}
	for _, err := range []api.Errno{api.OK, api.ErrKeeps, api.ErrMove} {
		if met[err] < 500 {
			t.Error(err, met[err])
		}
	}
}

// P24.3

// reaches tells whether by some letter with such a choice of a side's a state leads to another.
func reaches(a api.Auto, mask, move api.Letter, q, to int) bool {
	for l := range 1 << a.Props {
		if api.Letter(l)&mask == move && next(a, q, api.Letter(l)) == to {
			return true
		}
	}
	return false
}

// holds asks for a play, of which what follows must hold.
func holds(t *testing.T, a api.Auto, s api.Split, x api.Strategy, moves []api.Letter) {
	t.Helper()
	l, err := strat.Play(a, s, x, moves)
	good := err == api.OK && len(l) > 0 && l[0] == 0 && len(l) <= len(moves)+1
	for i, q := range l {
		// Until the last one no state accepts, and the last one only where the system wins.
		good = good && (!a.Accept[q] || x.Wins && i == len(l)-1)
		if i == 0 {
			continue
		}
		was := l[i-1]
		good = good && reaches(a, mover(s, x), moves[i-1], was, q)
		if x.Wins {
			good = good && 0 <= x.Ranks[q] && x.Ranks[q] < x.Ranks[was]
		} else {
			good = good && x.Ranks[q] == -1
		}
	}
	if x.Wins {
		good = good && (len(l) == len(moves)+1 || a.Accept[l[len(l)-1]]) && (len(moves) < x.Ranks[0] || a.Accept[l[len(l)-1]])
	} else {
		good = good && len(l) == len(moves)+1
	}
	if !good {
		t.Fatalf("Play(%.300s, %v, %.600s, %.100s) = %.300s %d", toldAuto(a), s, toldStrategy(x), told(moves), told(l), err)
	}
}

// follows asks of a strategy that it keeps what it says, and of plays of so many moves by chance, and of as many as the first rank says.
func follows(t *testing.T, chance *rand.Rand, a api.Auto, s api.Split, x api.Strategy) {
	t.Helper()
	checks(t, a, s, x, true)
	for _, many := range []int{0, 1, 2, 3, max(0, min(1024, x.Ranks[0]-1)), max(0, min(1024, x.Ranks[0])), len(a.Accept), 2 * len(a.Accept)} {
		for range 3 {
			holds(t, a, s, x, growMoves(chance, mover(s, x), many))
		}
	}
}

func TestWhatFollows(t *testing.T) {
	t.Parallel()
	chance := rand.New(rand.NewSource(8))
	wins := 0
	for range 1500 {
		n, states := chance.Intn(5), 1+chance.Intn(15)
		a, s := growAny(chance, n, states), growSplit(chance, n)
		x, err := strat.Of(a, s)
		if err != api.OK {
			t.Fatal(err)
		}
		if x.Wins {
			wins++
			if x.Ranks[0] >= states {
				t.Fatal(toldAuto(a), s, toldStrategy(x))
			}
		}
		follows(t, chance, a, s, x)
	}
	if wins < 300 || wins > 1200 {
		t.Error(wins)
	}
}

// TestWhatFollowsOfOtherStrategies: those that Of did not make, whose ranks are no lesser, and -1 just where its are.
func TestWhatFollowsOfOtherStrategies(t *testing.T) {
	t.Parallel()
	chance := rand.New(rand.NewSource(9))
	others := 0
	for range 1500 {
		n, states := chance.Intn(4), 1+chance.Intn(10)
		a, s := growAny(chance, n, states), growSplit(chance, n)
		x, y := growStrategy(chance, a, s), strategyOf(a, s)
		if toldStrategy(x) != toldStrategy(y) {
			others++
		}
		for q, rank := range y.Ranks {
			if x.Ranks[q] < rank || (x.Ranks[q] == -1) != (rank == -1) {
				t.Fatal(toldAuto(a), s, toldStrategy(x), toldStrategy(y))
			}
		}
		follows(t, chance, a, s, x)
	}
	if others < 1000 {
		t.Error(others)
	}
}

// eachList goes over all lists of so many moves of a side.
func eachList(mask api.Letter, many int, do func([]api.Letter)) {
	of := choices(mask)
	for _, l := range rowsOf(many, len(of)) {
		moves := make([]api.Letter, many)
		for i, at := range l {
			moves[i] = of[at]
		}
		do(moves)
	}
}

// TestAllPlaysOfFewMoves: whatever the moves are, of as many as the first rank says, and of three more where the environment wins.
func TestAllPlaysOfFewMoves(t *testing.T) {
	t.Parallel()
	chance := rand.New(rand.NewSource(10))
	for range 200 {
		n := chance.Intn(3)
		a, s := growAny(chance, n, 2+chance.Intn(4)), growSplit(chance, n)
		of, _ := strat.Of(a, s)
		for _, x := range []api.Strategy{of, growStrategy(chance, a, s)} {
			for many := range 5 {
				eachList(mover(s, x), many, func(moves []api.Letter) { holds(t, a, s, x, moves) })
			}
		}
	}
	// The rank is the number of rounds that the environment may make the system take.
	for _, s := range splitsOf(2) {
		for range 100 {
			a := growLong(chance, 2, 4)
			x, _ := strat.Of(a, s)
			if !x.Wins {
				continue
			}
			longest := 0
			eachList(s.Env, x.Ranks[0], func(moves []api.Letter) {
				l, _ := strat.Play(a, s, x, moves)
				longest = max(longest, len(l)-1)
			})
			if longest != x.Ranks[0] {
				t.Fatal(toldAuto(a), s, toldStrategy(x), longest)
			}
		}
	}
}

// Many states

// ladder tells an automaton of so many states that leads from rung to rung, the order of the rungs being given, to the last one, which alone accepts. A letter goes on by a rung where q is as p is, or else falls to the first rung, the state 0.
func ladder(order []int) api.Auto {
	rows := make([][]int, len(order))
	for at, q := range order {
		up := order[min(at+1, len(order)-1)]
		rows[q] = []int{up, 0, 0, up}
	}
	accept := make([]bool, len(order))
	accept[order[len(order)-1]] = true
	return built(2, accept, rows)
}

func TestLadders(t *testing.T) {
	t.Parallel()
	chance := rand.New(rand.NewSource(11))
	for _, states := range []int{2, 3, 17, 255, 256} {
		order := make([]int, states)
		for i := range order {
			order[i] = i
		}
		for range 3 {
			a := ladder(order)
			for _, c := range []struct {
				s     api.Split
				reply string
			}{{api.Split{Env: 1, Sys: 2}, "0 2"}, {api.Split{Env: 2, Sys: 1}, "0 1"}, {api.Split{Sys: 3}, "0"}} {
				x, err := strat.Of(a, c.s)
				for at, q := range order {
					reply := c.reply
					if at == states-1 {
						reply = ""
					}
					if err != api.OK || x.Ranks[q] != states-1-at || told(x.Reply[q]) != reply || x.Choice[q] != 0 {
						t.Fatal(states, q, toldStrategy(x), err)
					}
				}
				moves := growMoves(chance, c.s.Env, states+5)
				plays(t, a, c.s, x, moves, told(order))
				plays(t, a, c.s, x, moves[:states-1], told(order))
				plays(t, a, c.s, x, moves[:states-2], told(order[:states-1]))
			}
			// The environment alone falls from the last rung but one, and goes up from all others.
			y, _ := strat.Of(a, api.Split{Env: 3})
			falls := make([]api.Letter, states)
			falls[order[states-2]] = 1
			if y.Wins || !slices.Equal(y.Choice, falls) {
				t.Fatal(toldStrategy(y))
			}
			follows(t, chance, a, api.Split{Env: 3}, y)
			chance.Shuffle(states-1, func(i, j int) { order[1+i], order[1+j] = order[1+j], order[1+i] })
		}
	}
}

// crowded tells an automaton with 256 states and with just 4,096 nodes, of which each leads to states near by.
func crowded(chance *rand.Rand) api.Auto {
	st, _ := guard.New(8)
	a := api.Auto{Props: 8}
	for q := range 256 {
		// On so many of the last propositions the state hangs: no more than there is room for.
		many := 8
		for st.Len()+1<<many-1 > 4096 {
			many--
		}
		where := make([]int, 256)
		for l := range where {
			where[l] = max(0, min(255, q+chance.Intn(8)-3))
		}
		for l := range where {
			where[l] = where[l>>(8-many)<<(8-many)]
		}
		a.Accept = append(a.Accept, q == 255)
		ref, _ := st.Add(where)
		a.Guard = append(a.Guard, ref)
	}
	a.Nodes = st.Nodes()
	return a
}

func TestAsManyStatesAndNodesAsThereMayBe(t *testing.T) {
	t.Parallel()
	chance := rand.New(rand.NewSource(12))
	a := crowded(chance)
	if len(a.Accept) != 256 || len(a.Nodes) != 4096 {
		t.Fatal(len(a.Accept), len(a.Nodes))
	}
	for _, s := range []api.Split{{Env: 1, Sys: 254}, {Env: 15, Sys: 240}, {Env: 255}, {Sys: 255}} {
		asTheModelSays(t, a, s)
		x, _ := strat.Of(a, s)
		follows(t, chance, a, s, x)
		holds(t, a, s, x, growMoves(chance, mover(s, x), 1024))
	}
	a.Nodes = append(a.Nodes, api.Node{P: 7, Lo: -256, Hi: -255})
	refused(t, a, api.Split{Env: 255}, api.ErrAuto)
}

// P1, and the rules

// spoil writes over a list, and over its spare room.
func spoil[T any](l []T, with T) {
	l = l[:cap(l)]
	for i := range l {
		l[i] = with
	}
}

// spoilReplies writes over each reply by itself, which then has to have what was written there; then over the list of them.
func spoilReplies(t *testing.T, x api.Strategy) {
	t.Helper()
	for q, l := range x.Reply {
		spoil(l, api.Letter(q+1))
	}
	for q, l := range x.Reply {
		if slices.ContainsFunc(l[:cap(l)], func(answer api.Letter) bool { return answer != api.Letter(q+1) }) {
			t.Fatal("replies share memory", toldStrategy(x))
		}
	}
	spoil(x.Reply, []api.Letter{9})
}

func TestAnswersShareNoMemory(t *testing.T) {
	t.Parallel()
	chance := rand.New(rand.NewSource(13))
	for range 300 {
		n, states := chance.Intn(5), 1+chance.Intn(6)
		a, s := growAny(chance, n, states), growSplit(chance, n)
		must := strategyOf(a, s)
		was, text := toldAuto(a), toldStrategy(must)
		one, _ := strat.Of(a, s)
		other, _ := strat.Of(a, s)
		choice := slices.Clone(one.Choice)
		spoilReplies(t, one)
		if told(one.Ranks) != told(must.Ranks) || !slices.Equal(one.Choice, choice) {
			t.Fatal(was, s, toldStrategy(one))
		}
		spoil(one.Ranks, 77)
		if !slices.Equal(one.Choice, choice) {
			t.Fatal(was, s, toldStrategy(one))
		}
		spoil(one.Choice, 77)
		if toldStrategy(other) != text || toldAuto(a) != was {
			t.Fatal(was, s, text, toldStrategy(other), toldAuto(a))
		}
		tells(t, a, s, must)
		moves := growMoves(chance, mover(s, other), 1+chance.Intn(6))
		movesWere := told(moves)
		first, _ := strat.Play(a, s, other, moves)
		second, _ := strat.Play(a, s, other, moves)
		met := told(second)
		spoil(first, 77)
		if told(second) != met || told(moves) != movesWere || toldStrategy(other) != text {
			t.Fatal(was, s, movesWere, met, second)
		}
		plays(t, a, s, other, moves, met)
	}
}

// roomy tells a list with spare room, in which other things stand.
func roomy[T any](l []T, room ...T) []T { return append(slices.Clip(l), room...)[:len(l)] }

// wide tells a list with three of its spare room.
func wide[T any](l []T) []T { return l[:len(l)+3] }

// roomyAuto tells an automaton whose lists have spare room, in which other things stand.
func roomyAuto(a api.Auto) api.Auto {
	return api.Auto{
		Props:  a.Props,
		Accept: roomy(a.Accept, true, false, true),
		Guard:  roomy(a.Guard, 99, -99, 0),
		Nodes:  roomy(a.Nodes, api.Node{P: 9, Lo: 9, Hi: 9}, api.Node{}, api.Node{P: -1, Lo: -1, Hi: -1}),
	}
}

// roomyStrategy tells a strategy whose lists have spare room, in which other things stand.
func roomyStrategy(x api.Strategy) api.Strategy {
	y := api.Strategy{Wins: x.Wins, Ranks: roomy(x.Ranks, -1, 0, 7), Choice: roomy(x.Choice, 0, 255, 1)}
	for _, l := range x.Reply {
		y.Reply = append(y.Reply, roomy(l, 0, 255, 1))
	}
	y.Reply = roomy(y.Reply, nil, letters("0 1 2 3"), letters("255 0 0 0"))
	return y
}

// wholeOf tells an automaton, a strategy and moves with what stands in their spare room.
func wholeOf(a api.Auto, x api.Strategy, moves []api.Letter) string {
	b := api.Auto{Props: a.Props, Accept: wide(a.Accept), Guard: wide(a.Guard), Nodes: wide(a.Nodes)}
	y := api.Strategy{Wins: x.Wins, Ranks: wide(x.Ranks), Choice: wide(x.Choice)}
	for q, l := range wide(x.Reply) {
		if q < len(x.Reply) {
			l = wide(l)
		}
		y.Reply = append(y.Reply, l)
	}
	return toldAuto(b) + toldStrategy(y) + told(wide(moves))
}

func TestNothingHandedInIsChangedOrReadBehindItsEnd(t *testing.T) {
	t.Parallel()
	chance := rand.New(rand.NewSource(14))
	for range 300 {
		n, states := chance.Intn(5), 1+chance.Intn(6)
		a, s := roomyAuto(growAny(chance, n, states)), growSplit(chance, n)
		x := roomyStrategy(growStrategy(chance, a, s))
		moves := roomy(growMoves(chance, mover(s, x), chance.Intn(6)), 255, 0, 1)
		was := wholeOf(a, x, moves)
		asTheModelSays(t, a, s)
		checks(t, a, s, x, true)
		l, err := playOf(a, s, x, moves)
		if err != api.OK {
			t.Fatal(err)
		}
		plays(t, a, s, x, moves, told(l))
		// What stands behind the end makes no list whole.
		less := x
		less.Ranks = x.Ranks[:states-1]
		broken(t, a, s, less)
		less = x
		less.Reply = x.Reply[:states-1]
		broken(t, a, s, less)
		less = x
		less.Choice = x.Choice[:states-1]
		broken(t, a, s, less)
		for q, reply := range x.Reply {
			if len(reply) > 0 {
				less = x
				less.Reply = slices.Clone(x.Reply)
				less.Reply[q] = reply[:len(reply)-1]
				broken(t, a, s, less)
			}
		}
		// What is refused changes nothing either.
		noPlay(t, a, s, x, slices.Repeat([]api.Letter{255}, 1025), api.ErrLong)
		refused(t, a, api.Split{Env: 1, Sys: 1}, api.ErrSplit)
		if wholeOf(a, x, moves) != was {
			t.Fatal(was, wholeOf(a, x, moves))
		}
	}
}

// TestAStrategyIsNotKept: what is told hangs on what is handed in at that call.
func TestAStrategyIsNotKept(t *testing.T) {
	a, s := many(), api.Split{Env: 1, Sys: 2}
	x := ofMany()
	checks(t, a, s, x, true)
	plays(t, a, s, x, letters("1 1"), "0 2")
	x.Reply[0][1] = 0
	checks(t, a, s, x, true)
	plays(t, a, s, x, letters("1 1"), "0 1 2")
	x.Reply[1][1] = 0
	broken(t, a, s, x)
	x.Reply[1][1] = 2
	plays(t, a, s, x, letters("1 1"), "0 1 2")
	tells(t, a, s, ofMany())
}

func TestNilAndEmptyAreTheSame(t *testing.T) {
	s := api.Split{Env: 1, Sys: 2}
	for _, l := range [][]api.Node{nil, {}, make([]api.Node, 0, 8)} {
		a := api.Auto{Props: 2, Accept: bools("01"), Guard: []int{-2, -2}, Nodes: l}
		must := strategy("sys", "1 0", "0 0;", "0 0")
		tells(t, a, s, must)
		for _, reply := range [][]api.Letter{nil, {}, make([]api.Letter, 0, 8)} {
			must.Reply[1] = reply
			checks(t, a, s, must, true)
			plays(t, a, s, must, letters("1"), "0 1")
			plays(t, a, s, must, reply, "0")
			broken(t, a, s, api.Strategy{Wins: true, Ranks: must.Ranks, Reply: [][]api.Letter{reply, reply}, Choice: must.Choice})
			broken(t, a, s, api.Strategy{Wins: true, Ranks: must.Ranks, Reply: must.Reply, Choice: reply})
		}
		for _, ranks := range [][]int{nil, {}, make([]int, 0, 8)} {
			broken(t, a, s, api.Strategy{Wins: true, Ranks: ranks, Reply: must.Reply, Choice: must.Choice})
		}
	}
}

// odd tells a number such as no one asks for.
func odd(chance *rand.Rand) int {
	switch chance.Intn(4) {
	case 0:
		return []int{math.MinInt, math.MaxInt, math.MinInt + 1, math.MaxInt - 1, 1 << 32, -1 << 32, 256, 4096}[chance.Intn(8)]
	case 1:
		return int(chance.Uint64())
	}
	return chance.Intn(9) - 4
}

// oddAuto tells an automaton that may be played, or such as no one asks for.
func oddAuto(chance *rand.Rand) api.Auto {
	if chance.Intn(3) > 0 {
		a := growAny(chance, chance.Intn(3), 1+chance.Intn(4))
		a.Accept[0] = chance.Intn(8) == 0
		return a
	}
	a := api.Auto{Props: odd(chance), Accept: make([]bool, chance.Intn(4)), Guard: make([]int, chance.Intn(4)), Nodes: make([]api.Node, chance.Intn(3))}
	for i := range a.Guard {
		a.Guard[i] = odd(chance)
	}
	for i := range a.Nodes {
		a.Nodes[i] = api.Node{P: odd(chance), Lo: odd(chance), Hi: odd(chance)}
	}
	return a
}

// oddLetters tells up to so many letters of all kinds, most of them small.
func oddLetters(chance *rand.Rand, most int) []api.Letter {
	l := make([]api.Letter, chance.Intn(most+1))
	for i := range l {
		l[i] = api.Letter(chance.Intn(4))
		if chance.Intn(4) == 0 {
			l[i] = api.Letter(chance.Intn(256))
		}
	}
	return l
}

// oddStrategy tells a strategy for so many states, such as no one asks for.
func oddStrategy(chance *rand.Rand, states int) api.Strategy {
	x := api.Strategy{Wins: chance.Intn(2) == 0, Ranks: make([]int, states), Reply: make([][]api.Letter, states), Choice: make([]api.Letter, states)}
	for q := range states {
		x.Ranks[q] = odd(chance)
		x.Reply[q] = oddLetters(chance, 3)
	}
	copy(x.Choice, oddLetters(chance, states))
	switch chance.Intn(6) {
	case 0:
		x.Ranks = x.Ranks[:chance.Intn(states+1)]
	case 1:
		x.Reply = x.Reply[:chance.Intn(states+1)]
	case 2:
		x.Choice = oddLetters(chance, 2*states)
	}
	return x
}

// refusal tells by the words of chapter 22 what must be told of an automaton and a split.
func refusal(a api.Auto, s api.Split) api.Errno {
	switch {
	case guard.Check(a) != api.OK || a.Accept[0]:
		return api.ErrAuto
	case !isSplit(a.Props, s):
		return api.ErrSplit
	}
	return api.OK
}

// oddCall asks all of one automaton, split, strategy and moves, and tells what Play had to answer.
func oddCall(t *testing.T, chance *rand.Rand, a api.Auto, s api.Split) api.Errno {
	t.Helper()
	if err := refusal(a, s); err != api.OK {
		refused(t, a, s, err)
		return err
	}
	asTheModelSays(t, a, s)
	x := oddStrategy(chance, len(a.Accept))
	if chance.Intn(2) == 0 {
		x = growStrategy(chance, a, s)
	}
	moves := oddLetters(chance, 5)
	if chance.Intn(4) == 0 {
		moves = slices.Concat(moves, make([]api.Letter, 1023))
	}
	checks(t, a, s, x, len(faults(a, s, x)) == 0)
	l, err := playOf(a, s, x, moves)
	if err == api.OK {
		plays(t, a, s, x, moves, told(l))
	} else {
		noPlay(t, a, s, x, moves, err)
	}
	return err
}

func TestCallsAreCalm(t *testing.T) {
	t.Parallel()
	chance := rand.New(rand.NewSource(15))
	met := map[api.Errno]int{}
	for range 20000 {
		a := oddAuto(chance)
		s := api.Split{Env: api.Letter(chance.Intn(256)), Sys: api.Letter(chance.Intn(256))}
		if chance.Intn(4) > 0 {
			s = growSplit(chance, min(8, max(0, a.Props)))
		}
		met[oddCall(t, chance, a, s)]++
		if t.Failed() {
			t.FailNow()
		}
	}
	for _, err := range []api.Errno{api.OK, api.ErrAuto, api.ErrSplit, api.ErrKeeps, api.ErrLong, api.ErrMove} {
		if met[err] < 500 {
			t.Error(err, met[err])
		}
	}
}

func TestAnswersHangOnArgumentsAlone(t *testing.T) {
	t.Parallel()
	chance := rand.New(rand.NewSource(16))
	a, s := growLong(chance, 5, 20), api.Split{Env: 3, Sys: 28}
	must := strategyOf(a, s)
	other := growStrategy(chance, a, s)
	moves := growMoves(chance, mover(s, other), 20)
	states, _ := playOf(a, s, other, moves)
	var group sync.WaitGroup
	for range 8 {
		group.Go(func() {
			for range 20 {
				tells(t, a, s, must)
				checks(t, a, s, other, true)
				plays(t, a, s, other, moves, told(states))
				noPlay(t, a, s, other, letters("255"), api.ErrMove)
				refused(t, until(), s, api.ErrSplit)
			}
		})
	}
	group.Wait()
}
