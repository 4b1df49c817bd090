package play_test

import (
	"math"
	"math/rand"
	"slices"
	"strconv"
	"strings"
	"sync"
	"testing"

	"rejoinder/api"
	"rejoinder/board"
	"rejoinder/canon"
	"rejoinder/compile"
	"rejoinder/guard"
	"rejoinder/lang"
	"rejoinder/play"
	"rejoinder/strat"
)

// until tells the automaton of the chapter's examples: p U q.
func until() api.Auto { return auto(2, "001", "2 -2 -3", "1 -2 -3; 1 -1 -3; 0 0 1") }

// one and two are the splits of the chapter's examples, first and second their strategies.
func one() api.Split { return api.Split{Env: 1, Sys: 2} }

func two() api.Split { return api.Split{Env: 2, Sys: 1} }

func first() api.Strategy { return strategy("sys", "1 -1 0", "2 2;;", "0 0 0") }

func second() api.Strategy { return strategy("env", "-1 -1 0", ";;", "0 0 0") }

// many tells an automaton with states of all kinds: 0 has the rank 2, 1 the rank 1, where the environment has p; 2 accepts, and so do 5 and 6, which are not reached; 3 is kept by p alone, 4 and 7 by any choice.
func many() api.Auto {
	return leads(2, "00100110", "4 1 1 2; 2 3 2 2; 2*4; 2 3 4 4; 4*4; 3 2 0 1; 3 2 4 1; 7*4")
}

// ofMany tells its strategy, where the environment has p.
func ofMany() api.Strategy {
	return strategy("sys", "2 1 0 -1 -1 0 0 -1", "2 2; 0 2;;;;;;", "0 0 0 1 0 0 0 0")
}

// kept tells an automaton in which the environment, that has p, goes on for ever: its choice is p in the states 0 and 2, none in 1.
func kept() api.Auto { return leads(2, "0001", "3 1 3 2; 2 1 0 1; 3 0 3 2; 3*4") }

// ofKept tells its strategy.
func ofKept() api.Strategy { return strategy("env", "-1 -1 -1 0", ";;;", "1 0 1 0") }

// of tells the strategy that strat makes.
func of(t *testing.T, a api.Auto, s api.Split) api.Strategy {
	t.Helper()
	x, err := strat.Of(a, s)
	if err != api.OK {
		t.Fatal(toldAuto(a), s, err)
	}
	return x
}

// made tells a new referee.
func made(t *testing.T, a api.Auto, s api.Split, x api.Strategy) *play.Referee {
	t.Helper()
	r, err := play.New(a, s, x)
	if r == nil || err != api.OK {
		t.Fatalf("New(%.300s, %v, %.600s) = %t %d", toldAuto(a), s, toldStrategy(x), r != nil, err)
	}
	return r
}

// noNew asks New, which must refuse it.
func noNew(t *testing.T, a api.Auto, s api.Split, x api.Strategy, must api.Errno) {
	t.Helper()
	if r, err := play.New(a, s, x); r != nil || err != must {
		t.Errorf("New(%.300s, %v, %.600s) = %t %d, not %d", toldAuto(a), s, toldStrategy(x), r != nil, err, must)
	}
}

// refused asks New, which must refuse it as board.Check does, whatever the strategy is.
func refused(t *testing.T, a api.Auto, s api.Split, must api.Errno) {
	t.Helper()
	if err := board.Check(a, s); err != must {
		t.Errorf("board.Check(%.300s, %v) = %d, not %d", toldAuto(a), s, err, must)
	}
	n := len(a.Accept)
	for _, x := range []api.Strategy{
		{},
		first(),
		{Ranks: slices.Repeat([]int{-1}, n), Reply: make([][]api.Letter, n), Choice: make([]api.Letter, n)},
		{Wins: true, Ranks: make([]int, n), Reply: make([][]api.Letter, n), Choice: make([]api.Letter, n)},
	} {
		noNew(t, a, s, x, must)
	}
}

// moves plays a round, which must have that letter.
func moves(t *testing.T, r *play.Referee, raw uint64, must api.Letter) {
	t.Helper()
	if l, err := r.Move(raw); l != must || err != api.OK {
		t.Errorf("Move(%d) = %d %d, not %d", raw, l, err, must)
	}
}

// noMove plays a round, which must be refused.
func noMove(t *testing.T, r *play.Referee, raw uint64, must api.Errno) {
	t.Helper()
	if l, err := r.Move(raw); l != 0 || err != must {
		t.Errorf("Move(%d) = %d %d, not %d", raw, l, err, must)
	}
}

// says asks for the environment's choice.
func says(t *testing.T, r *play.Referee, must api.Letter) {
	t.Helper()
	if l, err := r.Choice(); l != must || err != api.OK {
		t.Errorf("Choice = %d %d, not %d", l, err, must)
	}
}

// saysNothing asks for it, which must be refused.
func saysNothing(t *testing.T, r *play.Referee, must api.Errno) {
	t.Helper()
	if l, err := r.Choice(); l != 0 || err != must {
		t.Errorf("Choice = %d %d, not %d", l, err, must)
	}
}

// backs takes a round back.
func backs(t *testing.T, r *play.Referee, must api.Errno) {
	t.Helper()
	if err := r.Back(); err != must {
		t.Errorf("Back = %d, not %d", err, must)
	}
}

// stands asks a referee for all that is told of a play.
func stands(t *testing.T, r *play.Referee, state, rank int, over bool, trace string) {
	t.Helper()
	if r.State() != state || r.Rank() != rank || r.Over() != over || told(r.Trace()) != trace {
		t.Errorf("State %d Rank %d Over %t Trace %.200s, not %d %d %t %.200s", r.State(), r.Rank(), r.Over(), told(r.Trace()), state, rank, over, trace)
	}
}

// pair is a referee and the model beside it.
type pair struct {
	*play.Referee
	m *model
}

// begun tells a new referee and its model, which shares no memory with what is handed in.
func begun(t *testing.T, a api.Auto, s api.Split, x api.Strategy) pair {
	t.Helper()
	p := pair{made(t, a, s, x), &model{a: copiedAuto(a), s: s, x: copied(x)}}
	p.agrees(t)
	return p
}

// agrees asks a referee for all that the model tells.
func (p pair) agrees(t *testing.T) {
	t.Helper()
	q := p.m.state()
	stands(t, p.Referee, q, p.m.x.Ranks[q], p.m.over(), told(p.m.trace))
	l, err := p.Choice()
	if must, errToo := p.m.choice(); l != must || err != errToo {
		t.Errorf("Choice = %d %d, not %d %d", l, err, must, errToo)
	}
	if t.Failed() {
		t.Fatal(toldAuto(p.m.a), p.m.s, toldStrategy(p.m.x))
	}
}

// plays plays a round, or is refused, as the model is.
func (p pair) plays(t *testing.T, raw uint64) api.Errno {
	t.Helper()
	must, errToo := p.m.move(raw)
	l, err := p.Move(raw)
	if l != must || err != errToo {
		t.Errorf("Move(%d) = %d %d, not %d %d", raw, l, err, must, errToo)
	}
	p.agrees(t)
	return err
}

// returns takes a round back, or is refused, as the model is.
func (p pair) returns(t *testing.T) api.Errno {
	t.Helper()
	must := p.m.back()
	err := p.Back()
	if err != must {
		t.Errorf("Back = %d, not %d", err, must)
	}
	p.agrees(t)
	return err
}

// compiled tells the automaton of a formula's text.
func compiled(t *testing.T, names []string, text string) api.Auto {
	t.Helper()
	a, fault := compile.Text(names, text)
	if fault.Err != api.OK {
		t.Fatal(text, fault)
	}
	return a
}

// The chapter's examples

func TestExamples(t *testing.T) {
	a, err := compile.Tokens(2, []api.Tok{{Op: api.Prop}, {Op: api.Prop, P: 1}, {Op: api.Until}})
	if !canon.Same(a, until()) || err != api.OK {
		t.Fatal(toldAuto(a), err)
	}
	r := made(t, a, one(), of(t, a, one()))
	stands(t, r, 0, 1, false, "")
	saysNothing(t, r, api.ErrTurn)
	noMove(t, r, 2, api.ErrMove)
	noMove(t, r, 256, api.ErrMove)
	moves(t, r, 1, 3)
	stands(t, r, 2, 0, true, "3")
	noMove(t, r, 0, api.ErrDone)
	backs(t, r, api.OK)
	backs(t, r, api.ErrMissing)
	r = made(t, a, two(), of(t, a, two()))
	says(t, r, 0)
	moves(t, r, 1, 1)
	stands(t, r, 0, -1, false, "1")
	moves(t, r, 0, 0)
	stands(t, r, 1, -1, false, "1 0")
}

// TestExamplesOfTheWhole: those of the whole document that speak of this layer.
func TestExamplesOfTheWhole(t *testing.T) {
	both := []string{"p", "q"}
	// p is answered by q, and one round is a trace.
	a := compiled(t, both, "G (p <-> q)")
	for raw, letter := range []api.Letter{0, 3} {
		r := made(t, a, one(), of(t, a, one()))
		stands(t, r, 0, 1, false, "")
		moves(t, r, uint64(raw), letter)
		if !r.Over() || r.Rank() != 0 {
			t.Error(raw, r.Over(), r.Rank())
		}
	}
	// The environment never chooses p.
	b := compiled(t, both, "F (p & q)")
	r := made(t, b, one(), of(t, b, one()))
	for _, raw := range []uint64{0, 2, 2, 0} {
		says(t, r, 0)
		moves(t, r, raw, api.Letter(raw))
	}
	stands(t, r, 0, -1, false, "0 2 2 0")
	// X X q: with all for the system the rank is 3, with all for the environment it wins.
	c := compiled(t, []string{"q"}, "X X q")
	r = made(t, c, api.Split{Sys: 1}, of(t, c, api.Split{Sys: 1}))
	for rank := 3; rank > 0; rank-- {
		if r.Rank() != rank || r.Over() {
			t.Error(rank, r.Rank(), r.Over())
		}
		noMove(t, r, 1, api.ErrMove)
		moves(t, r, 0, map[int]api.Letter{3: 0, 2: 0, 1: 1}[rank])
	}
	if r.Rank() != 0 || !r.Over() {
		t.Error(r.Rank(), r.Over())
	}
	r = made(t, c, api.Split{Env: 1}, of(t, c, api.Split{Env: 1}))
	for range 5 {
		says(t, r, 0)
		noMove(t, r, 1, api.ErrMove)
		moves(t, r, 0, 0)
		if r.Rank() != -1 || r.Over() {
			t.Error(r.Rank(), r.Over())
		}
	}
}

// P25.1: board.Check's error ahead of all

func TestAutomataThatMayNotBe(t *testing.T) {
	for _, a := range []api.Auto{
		{},
		{Props: 2},
		auto(-1, "01", "-2 -2", ""),
		auto(9, "01", "-2 -2", ""),
		auto(math.MaxInt, "01", "-2 -2", ""),
		// Unlike numbers of states and guards; too many of both.
		auto(2, "01", "-2", ""),
		auto(2, "01", "-2 -2 -2", ""),
		auto(2, "0", "-1 -1", ""),
		idle(2, 257),
		// Guards, nodes, and their sides, that are not there.
		auto(2, "01", "-3 -2", ""),
		auto(2, "01", "0 -2", ""),
		auto(2, "01", "0 -2", "2 -1 -2"),
		auto(2, "01", "0 -2", "0 -1 -1"),
		auto(2, "01", "0 -2", "0 -1 0"),
		auto(2, "01", "0 -2", "0 -1 -2; 0 -1 -2"),
		auto(2, "01", "-2 -2", "1 -1 -2; 1 0 -1"),
		{Props: 2, Accept: bools("01"), Guard: []int{math.MinInt, math.MaxInt}},
		// The state 0 accepts.
		auto(2, "11", "-2 -2", ""),
		auto(2, "1", "-1", ""),
	} {
		for _, s := range []api.Split{one(), {}, {Env: 255, Sys: 255}} {
			refused(t, a, s, api.ErrAuto)
		}
	}
	for n := range 9 {
		a := idle(n, 3)
		all := api.Letter(1<<n - 1)
		a.Accept[0] = true
		// Not what would keep what it says either, if the state 0 might accept.
		x := api.Strategy{Wins: true, Ranks: []int{0, 1, 0}, Reply: [][]api.Letter{nil, make([]api.Letter, 1<<n), nil}, Choice: make([]api.Letter, 3)}
		noNew(t, a, api.Split{Env: all}, x, api.ErrAuto)
		// The same, but for the state 0.
		a.Accept[0] = false
		x.Ranks[0], x.Reply[0] = 2, make([]api.Letter, 1<<n)
		begun(t, a, api.Split{Env: all}, x)
	}
}

func TestSplitsThatMayNotBe(t *testing.T) {
	for _, s := range []api.Split{{}, {Env: 1}, {Sys: 2}, {Env: 3, Sys: 3}, {Env: 1, Sys: 3}, {Env: 1, Sys: 6}, {Env: 129, Sys: 2}, {Env: 255}} {
		refused(t, until(), s, api.ErrSplit)
	}
	chance := rand.New(rand.NewSource(1))
	for n := range 9 {
		for range 100 {
			s := api.Split{Env: api.Letter(chance.Intn(256)), Sys: api.Letter(chance.Intn(256))}
			if !isSplit(n, s) {
				refused(t, idle(n, 3), s, api.ErrSplit)
			}
		}
	}
}

// P25.1: strategies that do not keep what they say

// changed tells a strategy that was changed in its own memory.
func changed(x api.Strategy, by func(*api.Strategy)) api.Strategy {
	x = copied(x)
	by(&x)
	return x
}

func TestStrategiesOfOthers(t *testing.T) {
	noNew(t, until(), one(), second(), api.ErrKeeps)
	noNew(t, until(), two(), first(), api.ErrKeeps)
	noNew(t, until(), one(), ofMany(), api.ErrKeeps)
	noNew(t, many(), one(), first(), api.ErrKeeps)
	noNew(t, many(), two(), ofMany(), api.ErrKeeps)
	noNew(t, kept(), one(), second(), api.ErrKeeps)
	for _, x := range []api.Strategy{{}, {Wins: true}, {Ranks: []int{}, Reply: [][]api.Letter{}, Choice: []api.Letter{}}} {
		noNew(t, many(), one(), x, api.ErrKeeps)
		noNew(t, auto(0, "0", "-1", ""), api.Split{}, x, api.ErrKeeps)
	}
}

func TestStrategiesThatBreakOneCondition(t *testing.T) {
	type st = api.Strategy
	for _, by := range []func(x *st){
		func(x *st) { x.Ranks = x.Ranks[:7] },
		func(x *st) { x.Reply = x.Reply[:7] },
		func(x *st) { x.Choice = x.Choice[:7] },
		func(x *st) { x.Ranks = append(x.Ranks, -1) },
		func(x *st) { x.Reply = append(x.Reply, nil) },
		func(x *st) { x.Choice = append(x.Choice, 0) },
		func(x *st) { x.Ranks = nil },
		func(x *st) { x.Reply = nil },
		func(x *st) { x.Choice = nil },
		func(x *st) { x.Wins = false },
		func(x *st) { x.Ranks[1], x.Reply[1] = 0, nil },
		func(x *st) { x.Ranks[5], x.Reply[5] = 3, letters("2 0") },
		func(x *st) { x.Ranks[6] = -1 },
		func(x *st) { x.Ranks[7] = -2 },
		func(x *st) { x.Ranks[7] = math.MinInt },
		func(x *st) { x.Ranks[0] = 1 },
		func(x *st) { x.Ranks[1] = 2 },
		func(x *st) { x.Reply[0][0] = 0 },
		func(x *st) { x.Reply[1][1] = 3 },
		func(x *st) { x.Reply[0] = letters("2") },
		func(x *st) { x.Reply[0] = letters("2 2 2") },
		func(x *st) { x.Reply[2] = letters("0 0") },
		func(x *st) { x.Reply[4] = letters("0") },
		func(x *st) { x.Choice[7] = 2 },
		func(x *st) { x.Choice[3] = 0 },
		func(x *st) { x.Choice[0] = 1 },
		func(x *st) { x.Choice[6] = 128 },
	} {
		x := changed(ofMany(), by)
		if len(faults(many(), one(), x)) != 1 {
			t.Error(toldStrategy(x), faults(many(), one(), x))
		}
		noNew(t, many(), one(), x, api.ErrKeeps)
	}
	begun(t, many(), one(), ofMany())
}

// twist changes one thing of a strategy by chance.
func twist(chance *rand.Rand, x *api.Strategy) {
	q := chance.Intn(len(x.Ranks))
	switch chance.Intn(8) {
	case 0:
		x.Wins = !x.Wins
	case 1:
		x.Ranks[q] += chance.Intn(5) - 2
	case 2:
		x.Choice[q] = api.Letter(chance.Intn(8))
	case 3:
		x.Reply[q] = append(x.Reply[q], api.Letter(chance.Intn(4)))
	case 4:
		x.Reply[q] = x.Reply[chance.Intn(len(x.Reply))]
	default:
		if many := len(x.Reply[q]); many > 0 {
			x.Reply[q] = slices.Clone(x.Reply[q])
			x.Reply[q][chance.Intn(many)] ^= api.Letter(1 << chance.Intn(4))
		}
	}
}

func TestTwistedStrategies(t *testing.T) {
	t.Parallel()
	chance := rand.New(rand.NewSource(2))
	met := map[string]int{}
	for range 5000 {
		n := chance.Intn(4)
		a, s := growAny(chance, n, 1+chance.Intn(6)), growSplit(chance, n)
		x := growStrategy(chance, a, s)
		twist(chance, &x)
		name := "kept"
		if l := faults(a, s, x); len(l) > 0 {
			name, _, _ = strings.Cut(l[0], " ")
			noNew(t, a, s, x, api.ErrKeeps)
		} else {
			begun(t, a, s, x)
		}
		met[name]++
		if t.Failed() {
			t.FailNow()
		}
	}
	for _, name := range []string{"kept", "wins", "zero", "many", "foreign", "falls", "stranger", "choice"} {
		if met[name] < 30 {
			t.Error(name, met[name])
		}
	}
}

// P25.1 and P25.3: the beginning of a play

func TestTheBeginning(t *testing.T) {
	r := made(t, until(), one(), first())
	stands(t, r, 0, 1, false, "")
	r = made(t, until(), two(), second())
	stands(t, r, 0, -1, false, "")
	r = made(t, many(), one(), ofMany())
	stands(t, r, 0, 2, false, "")
	r = made(t, kept(), one(), ofKept())
	stands(t, r, 0, -1, false, "")
	backs(t, r, api.ErrMissing)
	chance := rand.New(rand.NewSource(3))
	for range 500 {
		n := chance.Intn(5)
		a, s := growAny(chance, n, 1+chance.Intn(8)), growSplit(chance, n)
		for _, x := range []api.Strategy{of(t, a, s), growStrategy(chance, a, s)} {
			r := made(t, a, s, x)
			stands(t, r, 0, x.Ranks[0], false, "")
			backs(t, r, api.ErrMissing)
			stands(t, r, 0, x.Ranks[0], false, "")
		}
	}
}

// Rule 5

// noReferee asks all of a referee that is none.
func noReferee(t *testing.T, r *play.Referee) {
	t.Helper()
	for range 2 {
		saysNothing(t, r, api.ErrNil)
		for _, raw := range []uint64{0, 1, 2, 256, math.MaxUint64} {
			noMove(t, r, raw, api.ErrNil)
		}
		backs(t, r, api.ErrNil)
		stands(t, r, 0, 0, false, "")
	}
}

func TestARefereeThatIsNone(t *testing.T) {
	noReferee(t, nil)
	noReferee(t, &play.Referee{})
	noReferee(t, new(play.Referee))
	var r play.Referee
	noReferee(t, &r)
	noReferee(t, &[]play.Referee{{}, {}}[1])
	var within struct{ play.Referee }
	noReferee(t, &within.Referee)
	refused, _ := play.New(until(), one(), second())
	noReferee(t, refused)
	refused, _ = play.New(api.Auto{}, one(), first())
	noReferee(t, refused)
}

func TestACopyIsNoReferee(t *testing.T) {
	r := made(t, kept(), one(), ofKept())
	c := *r
	noReferee(t, &c)
	moves(t, r, 0, 1)
	moves(t, r, 0, 0)
	c = *r
	noReferee(t, &c)
	stands(t, r, 2, -1, false, "1 0")
	backs(t, r, api.OK)
	noReferee(t, &c)
	moves(t, r, 2, 2)
	stands(t, r, 0, -1, false, "1 2")
	// Nor is the copy of one whose play is over.
	other := made(t, until(), one(), first())
	moves(t, other, 0, 2)
	c = *other
	noReferee(t, &c)
	stands(t, other, 2, 0, true, "2")
	// One that is written over is none either: no function made it so.
	*r = *other
	noReferee(t, r)
	*other = play.Referee{}
	noReferee(t, other)
}

// P25.2: Choice

func TestChoice(t *testing.T) {
	r := made(t, kept(), one(), ofKept())
	for _, c := range []struct {
		raw           uint64
		said, letter  api.Letter
		state, behind int
	}{{0, 1, 1, 0, 1}, {0, 0, 0, 1, 2}, {0, 1, 1, 2, 0}, {2, 1, 3, 0, 2}, {2, 1, 3, 2, 2}, {0, 1, 1, 2, 0}, {0, 1, 1, 0, 1}, {2, 0, 2, 1, 0}} {
		// However often it is asked for it is the same, and nothing is played by it.
		for range 3 {
			says(t, r, c.said)
		}
		if r.State() != c.state {
			t.Error(r.State(), c.state)
		}
		moves(t, r, c.raw, c.letter)
		if r.State() != c.behind {
			t.Error(r.State(), c.behind)
		}
	}
	stands(t, r, 0, -1, false, "1 0 1 3 3 1 1 2")
	// What is said of a state is said of it again, behind a round that was taken back.
	for _, must := range []string{"0", "1", "1", "1", "1", "1", "0", "1"} {
		backs(t, r, api.OK)
		says(t, r, letters(must)[0])
	}
	backs(t, r, api.ErrMissing)
	says(t, r, 1)
}

func TestChoiceWhereTheSystemWins(t *testing.T) {
	r := made(t, many(), one(), ofMany())
	saysNothing(t, r, api.ErrTurn)
	moves(t, r, 0, 2)
	saysNothing(t, r, api.ErrTurn)
	moves(t, r, 0, 0)
	// A play that is over is told no other way.
	stands(t, r, 2, 0, true, "2 0")
	saysNothing(t, r, api.ErrTurn)
	backs(t, r, api.OK)
	saysNothing(t, r, api.ErrTurn)
	chance := rand.New(rand.NewSource(4))
	for n := range 9 {
		for _, s := range []api.Split{growSplit(chance, n), {Env: api.Letter(1<<n - 1)}, {Sys: api.Letter(1<<n - 1)}} {
			a := idle(n, 3)
			saysNothing(t, made(t, a, s, of(t, a, s)), api.ErrTurn)
			a.Accept[2] = false
			says(t, made(t, a, s, of(t, a, s)), 0)
		}
	}
}

// P25.2: Move

// raws tells numbers of all sizes: all of 10 bits, each bit above them alone and beside lesser ones, the greatest ones.
func raws() []uint64 {
	l := []uint64{math.MaxUint64, math.MaxUint64 - 1, math.MaxUint64 - 255, math.MaxInt64, math.MaxUint32, math.MaxUint32 + 1}
	for raw := range uint64(1 << 10) {
		l = append(l, raw)
	}
	for bit := 10; bit < 64; bit++ {
		for _, low := range []uint64{0, 1, 2, 170, 255} {
			l = append(l, 1<<bit|low)
		}
	}
	return l
}

// isOf tells whether a number is a choice of a side's.
func isOf(mask api.Letter, raw uint64) bool {
	return raw < 256 && slices.Contains(choices(mask), api.Letter(raw))
}

func TestMovesThatAreNotTheMovers(t *testing.T) {
	t.Parallel()
	chance := rand.New(rand.NewSource(5))
	for n := range 9 {
		all := api.Letter(1<<n - 1)
		for _, s := range []api.Split{{Env: all}, {Sys: all}, growSplit(chance, n), growSplit(chance, n)} {
			for _, wins := range []bool{false, true} {
				a := idle(n, 3)
				a.Accept[2] = wins
				x := of(t, a, s)
				r, side := made(t, a, s, x), mover(s, x)
				if x.Wins != wins {
					t.Fatal(toldStrategy(x))
				}
				played := 0
				for _, raw := range raws() {
					if isOf(side, raw) {
						// No bit of the other side's is chosen: the first choice of all is none.
						moves(t, r, raw, api.Letter(raw))
						stands(t, r, 1, x.Ranks[1], false, strconv.Itoa(int(raw)))
						backs(t, r, api.OK)
						played++
					} else {
						noMove(t, r, raw, api.ErrMove)
					}
					stands(t, r, 0, x.Ranks[0], false, "")
				}
				if played != len(choices(side)) {
					t.Fatal(n, s, played)
				}
			}
		}
	}
}

// TestAMoveIsAnsweredByWhatTheStrategySays: each move by the reply to it, and not by that to another one.
func TestAMoveIsAnsweredByWhatTheStrategySays(t *testing.T) {
	r := made(t, many(), one(), ofMany())
	moves(t, r, 0, 2)
	stands(t, r, 1, 1, false, "2")
	moves(t, r, 1, 3)
	stands(t, r, 2, 0, true, "2 3")
	backs(t, r, api.OK)
	moves(t, r, 0, 0)
	stands(t, r, 2, 0, true, "2 0")
	backs(t, r, api.OK)
	backs(t, r, api.OK)
	moves(t, r, 1, 3)
	stands(t, r, 2, 0, true, "3")
	// By another strategy, which keeps what it says, the play goes otherwise.
	r = made(t, many(), one(), changed(ofMany(), func(x *api.Strategy) { x.Reply[0][1] = 0 }))
	moves(t, r, 1, 1)
	stands(t, r, 1, 1, false, "1")
	moves(t, r, 1, 3)
	stands(t, r, 2, 0, true, "1 3")
	// Replies of one round, to choices of propositions that stand apart: one of 5 bits is answered by one of the other 3.
	chance := rand.New(rand.NewSource(6))
	a, s := idle(8, 2), api.Split{Env: 0b01101101, Sys: 0b10010010}
	x := of(t, a, s)
	answers := growMoves(chance, s.Sys, 32)
	x.Reply[0] = slices.Clone(answers)
	r = made(t, a, s, x)
	for i, choice := range choices(s.Env) {
		moves(t, r, uint64(choice), choice+answers[i])
		stands(t, r, 1, 0, true, strconv.Itoa(int(choice+answers[i])))
		backs(t, r, api.OK)
	}
}

// TestAPlayThatIsOver: that is told ahead of what is wrong with the move.
func TestAPlayThatIsOver(t *testing.T) {
	r := made(t, until(), one(), first())
	moves(t, r, 0, 2)
	for _, raw := range raws() {
		noMove(t, r, raw, api.ErrDone)
	}
	stands(t, r, 2, 0, true, "2")
	backs(t, r, api.OK)
	stands(t, r, 0, 1, false, "")
	noMove(t, r, 2, api.ErrMove)
	moves(t, r, 1, 3)
	noMove(t, r, 1, api.ErrDone)
	stands(t, r, 2, 0, true, "3")
}

func TestJustSoManyRounds(t *testing.T) {
	t.Parallel()
	for _, c := range []struct {
		a    api.Auto
		s    api.Split
		x    api.Strategy
		odds []uint64
	}{{until(), two(), second(), []uint64{2, 3, 4, 256}}, {kept(), one(), ofKept(), []uint64{1, 3, 4, 258}}} {
		p := begun(t, c.a, c.s, c.x)
		chance := rand.New(rand.NewSource(7))
		for range 1024 {
			raw := uint64(growMoves(chance, c.s.Sys, 1)[0])
			if err := p.plays(t, raw); err != api.OK {
				t.Fatal(err)
			}
		}
		for range 3 {
			for _, l := range choices(c.s.Sys) {
				noMove(t, p.Referee, uint64(l), api.ErrLong)
			}
			// One that is not the mover's is told first.
			for _, raw := range append(c.odds, math.MaxUint64) {
				noMove(t, p.Referee, raw, api.ErrMove)
			}
			// What the environment would choose is told all the same.
			p.agrees(t)
		}
		// Where one is taken back there is room for one.
		for range 3 {
			p.returns(t)
			if err := p.plays(t, 0); err != api.OK {
				t.Fatal(err)
			}
			if err := p.plays(t, 0); err != api.ErrLong {
				t.Fatal(err)
			}
		}
		for left := 1023; left >= 0; left-- {
			if err := p.returns(t); err != api.OK || len(p.Trace()) != left {
				t.Fatal(left, err, len(p.Trace()))
			}
		}
		for range 3 {
			if err := p.returns(t); err != api.ErrMissing {
				t.Fatal(err)
			}
		}
		if err := p.plays(t, 0); err != api.OK {
			t.Fatal(err)
		}
	}
}

// P25.2: Back

func TestBack(t *testing.T) {
	r := made(t, many(), one(), ofMany())
	for range 3 {
		backs(t, r, api.ErrMissing)
		moves(t, r, 0, 2)
		moves(t, r, 1, 3)
		noMove(t, r, 0, api.ErrDone)
		stands(t, r, 2, 0, true, "2 3")
		backs(t, r, api.OK)
		stands(t, r, 1, 1, false, "2")
		moves(t, r, 0, 0)
		stands(t, r, 2, 0, true, "2 0")
		backs(t, r, api.OK)
		stands(t, r, 1, 1, false, "2")
		backs(t, r, api.OK)
		stands(t, r, 0, 2, false, "")
		backs(t, r, api.ErrMissing)
		stands(t, r, 0, 2, false, "")
	}
	// What was refused is no round that is taken back.
	moves(t, r, 0, 2)
	noMove(t, r, 2, api.ErrMove)
	noMove(t, r, 3, api.ErrMove)
	saysNothing(t, r, api.ErrTurn)
	backs(t, r, api.OK)
	stands(t, r, 0, 2, false, "")
	backs(t, r, api.ErrMissing)
}

// P25.2 and P25.3, beside the model

// growRaw tells a number: a move of a side's, or any other one.
func growRaw(chance *rand.Rand, mask api.Letter) uint64 {
	switch chance.Intn(12) {
	case 0:
		return uint64(chance.Intn(300))
	case 1:
		return chance.Uint64()
	case 2:
		return 1 << chance.Intn(64)
	}
	return uint64(growMoves(chance, mask, 1)[0])
}

// growGame tells an automaton, a split, and a strategy that keeps what it says: strat's or another one.
func growGame(t *testing.T, chance *rand.Rand, n, states int) (api.Auto, api.Split, api.Strategy) {
	t.Helper()
	a, s := growAny(chance, n, states), growSplit(chance, n)
	if chance.Intn(2) == 0 {
		return a, s, of(t, a, s)
	}
	return a, s, growStrategy(chance, a, s)
}

// grown tells a referee of such a game and its model.
func grown(t *testing.T, chance *rand.Rand, n, states int) pair {
	t.Helper()
	a, s, x := growGame(t, chance, n, states)
	return begun(t, a, s, x)
}

func TestPlaysBesideTheModel(t *testing.T) {
	t.Parallel()
	chance := rand.New(rand.NewSource(8))
	met := map[api.Errno]int{}
	long := 0
	for range 3000 {
		p := grown(t, chance, chance.Intn(5), 1+chance.Intn(10))
		for range 25 {
			if chance.Intn(4) == 0 {
				met[p.returns(t)]++
			} else {
				met[p.plays(t, growRaw(chance, mover(p.m.s, p.m.x)))]++
			}
			if p.m.x.Wins && len(p.m.trace) > 2 {
				long++
			}
		}
	}
	for _, err := range []api.Errno{api.OK, api.ErrMissing, api.ErrMove, api.ErrDone} {
		if met[err] < 500 {
			t.Error(err, met[err])
		}
	}
	if long < 500 {
		t.Error(long)
	}
}

// TestARefereeIsAsStratPlays: the states are those that strat.Play tells of the moves.
func TestARefereeIsAsStratPlays(t *testing.T) {
	t.Parallel()
	chance := rand.New(rand.NewSource(9))
	for range 1000 {
		a, s, x := growGame(t, chance, chance.Intn(4), 1+chance.Intn(10))
		list := growMoves(chance, mover(s, x), chance.Intn(12))
		must, err := strat.Play(a, s, x, list)
		if err != api.OK {
			t.Fatal(err)
		}
		r := made(t, a, s, x)
		for i, move := range list {
			if i+1 == len(must) {
				// The play was over by then.
				noMove(t, r, uint64(move), api.ErrDone)
				break
			}
			if _, err := r.Move(uint64(move)); err != api.OK || r.State() != must[i+1] {
				t.Fatal(toldAuto(a), s, toldStrategy(x), list, must, i, r.State(), err)
			}
		}
		if t.Failed() {
			t.FailNow()
		}
	}
}

// P25.4

// tells asks of a referee what follows, whatever was played: the rank, the automaton by the trace, and what it accepts.
func tells(t *testing.T, r *play.Referee, a api.Auto, x api.Strategy) {
	t.Helper()
	trace := r.Trace()
	state, err := canon.Run(a, trace)
	good := err == api.OK && state == r.State() && r.Rank() == x.Ranks[state] && r.Over() == a.Accept[state]
	if x.Wins {
		good = good && r.Rank() >= 0 && len(trace)+r.Rank() <= x.Ranks[0] && r.Over() == (r.Rank() == 0)
	} else {
		good = good && r.Rank() == -1 && !r.Over()
	}
	// No lesser beginning is accepted.
	for i := range trace {
		is, err := lang.Accepts(a, trace[:i])
		good = good && !is && err == api.OK
	}
	is, _ := lang.Accepts(a, trace)
	if !good || is != r.Over() {
		t.Fatalf("%.300s, %.600s: State %d Rank %d Over %t Trace %.200s", toldAuto(a), toldStrategy(x), r.State(), r.Rank(), r.Over(), told(trace))
	}
}

// each plays each move that may be, and so on for so many rounds, and takes each back.
func each(t *testing.T, r *play.Referee, a api.Auto, s api.Split, x api.Strategy, rounds int) int {
	t.Helper()
	tells(t, r, a, x)
	if r.Over() || rounds == 0 {
		return 1
	}
	ends := 0
	rank, state, trace := r.Rank(), r.State(), told(r.Trace())
	for _, move := range choices(mover(s, x)) {
		l, err := r.Move(uint64(move))
		if err != api.OK || l&mover(s, x) != move || x.Wins && r.Rank() >= rank {
			t.Fatal(toldAuto(a), toldStrategy(x), trace, move, l, err, r.Rank())
		}
		ends += each(t, r, a, s, x, rounds-1)
		backs(t, r, api.OK)
		stands(t, r, state, rank, false, trace)
	}
	return ends
}

// TestAllPlaysOfFewMoves: whatever the moves are, of as many as the first rank says, and of four where the environment wins.
func TestAllPlaysOfFewMoves(t *testing.T) {
	t.Parallel()
	chance := rand.New(rand.NewSource(10))
	wins, ends := 0, 0
	for range 500 {
		n := chance.Intn(3)
		a, s := growAny(chance, n, 2+chance.Intn(5)), growSplit(chance, n)
		for _, x := range []api.Strategy{of(t, a, s), growStrategy(chance, a, s)} {
			rounds := 4
			if x.Wins {
				wins++
				rounds = x.Ranks[0]
			}
			r := made(t, a, s, x)
			ends += each(t, r, a, s, x, rounds)
			backs(t, r, api.ErrMissing)
		}
	}
	if wins < 100 || wins > 900 || ends < 10000 {
		t.Error(wins, ends)
	}
}

// toTheEnd plays by chance till the play is over, or so many rounds are played.
func toTheEnd(t *testing.T, chance *rand.Rand, a api.Auto, s api.Split, x api.Strategy, rounds int) {
	t.Helper()
	r := made(t, a, s, x)
	for i, move := range growMoves(chance, mover(s, x), rounds) {
		if r.Over() {
			break
		}
		rank := r.Rank()
		l, err := r.Move(uint64(move))
		if err != api.OK || l&mover(s, x) != move || x.Wins && r.Rank() >= rank {
			t.Fatal(toldAuto(a), s, toldStrategy(x), i, move, l, err)
		}
	}
	tells(t, r, a, x)
	if x.Wins != r.Over() || x.Wins && len(r.Trace()) > x.Ranks[0] || !x.Wins && len(r.Trace()) != rounds {
		t.Fatal(toldAuto(a), s, toldStrategy(x), r.Over(), len(r.Trace()))
	}
}

func TestWhatFollows(t *testing.T) {
	t.Parallel()
	chance := rand.New(rand.NewSource(11))
	wins, others := 0, 0
	for range 1000 {
		n, states := chance.Intn(5), 1+chance.Intn(15)
		a, s := growAny(chance, n, states), growSplit(chance, n)
		own, other := of(t, a, s), growStrategy(chance, a, s)
		if toldStrategy(own) != toldStrategy(other) {
			others++
		}
		for _, x := range []api.Strategy{own, other} {
			if x.Wins {
				wins++
			}
			toTheEnd(t, chance, a, s, x, 50)
		}
	}
	if wins < 300 || wins > 1700 || others < 500 {
		t.Error(wins, others)
	}
}

// TestGreatRanks: a rank may be greater than there are states; the rounds are no more for that.
func TestGreatRanks(t *testing.T) {
	x := changed(ofMany(), func(x *api.Strategy) { x.Ranks[0], x.Ranks[1] = math.MaxInt, math.MaxInt-1 })
	r := made(t, many(), one(), x)
	stands(t, r, 0, math.MaxInt, false, "")
	moves(t, r, 0, 2)
	stands(t, r, 1, math.MaxInt-1, false, "2")
	moves(t, r, 0, 0)
	stands(t, r, 2, 0, true, "2 0")
	backs(t, r, api.OK)
	backs(t, r, api.OK)
	stands(t, r, 0, math.MaxInt, false, "")
}

func TestAutomataOfFormulas(t *testing.T) {
	t.Parallel()
	chance := rand.New(rand.NewSource(12))
	few := []string{"p", "q", "r"}
	wins := 0
	for _, text := range []string{"true", "false", "F last", "p", "X p", "N p", "X X X p", "p U q", "p R q", "G (p <-> q)", "F (p & q & r)", "G (p -> X q)", "F p & F q & F r", "<({p} ; {q})*> r", "G F p", "p <-> (q <-> r)", "X X q & G (p -> N r)"} {
		a := compiled(t, few, text)
		for _, s := range splitsOf(3) {
			x := of(t, a, s)
			if x.Wins {
				wins++
			}
			for range 5 {
				toTheEnd(t, chance, a, s, x, 60)
			}
		}
	}
	if wins < 40 || wins > 100 {
		t.Error(wins)
	}
}

// One side without propositions, no proposition, 8 of them

func TestOneSideHasNoProposition(t *testing.T) {
	a := leads(2, "00001", "1 2 1 2; 3*4; 4 0 0 4; 4*4; 4*4")
	// The system alone: the environment has one move, that it has none.
	r := made(t, a, api.Split{Sys: 3}, of(t, a, api.Split{Sys: 3}))
	noMove(t, r, 1, api.ErrMove)
	moves(t, r, 0, 1)
	stands(t, r, 2, 1, false, "1")
	noMove(t, r, 2, api.ErrMove)
	moves(t, r, 0, 0)
	stands(t, r, 4, 0, true, "1 0")
	// The environment alone: the system's one move is that it has none.
	r = made(t, a, api.Split{Env: 3}, of(t, a, api.Split{Env: 3}))
	says(t, r, 1)
	noMove(t, r, 1, api.ErrMove)
	moves(t, r, 0, 1)
	says(t, r, 1)
	noMove(t, r, 3, api.ErrMove)
	moves(t, r, 0, 1)
	stands(t, r, 0, -1, false, "1 1")
	chance := rand.New(rand.NewSource(13))
	for range 200 {
		n := 1 + chance.Intn(4)
		a := growAny(chance, n, 1+chance.Intn(6))
		all := api.Letter(1<<n - 1)
		for _, s := range []api.Split{{Env: all}, {Sys: all}} {
			toTheEnd(t, chance, a, s, of(t, a, s), 20)
			toTheEnd(t, chance, a, s, growStrategy(chance, a, s), 20)
		}
	}
}

func TestNoProposition(t *testing.T) {
	a := auto(0, "0001", "-2 -3 -4 -1", "")
	r := made(t, a, api.Split{}, strategy("sys", "3 2 1 0", "0; 0; 0;", "0*4"))
	for rank := 3; rank > 0; rank-- {
		for _, raw := range raws() {
			if raw > 0 {
				noMove(t, r, raw, api.ErrMove)
			}
		}
		stands(t, r, 3-rank, rank, false, told(make([]int, 3-rank)))
		saysNothing(t, r, api.ErrTurn)
		moves(t, r, 0, 0)
	}
	stands(t, r, 3, 0, true, "0 0 0")
	noMove(t, r, 0, api.ErrDone)
	b := auto(0, "01", "-1 -1", "")
	r = made(t, b, api.Split{}, strategy("env", "-1 0", ";", "0 0"))
	for i := range 5 {
		says(t, r, 0)
		noMove(t, r, 1, api.ErrMove)
		moves(t, r, 0, 0)
		stands(t, r, 0, -1, false, told(make([]int, i+1)))
	}
	refused(t, b, api.Split{Env: 1}, api.ErrSplit)
}

func TestEightPropositions(t *testing.T) {
	t.Parallel()
	chance := rand.New(rand.NewSource(14))
	for range 10 {
		a, s := growAuto(chance, 8, 6, 2), growSplit(chance, 8)
		for _, x := range []api.Strategy{of(t, a, s), growStrategy(chance, a, s)} {
			p := begun(t, a, s, x)
			for range 20 {
				p.plays(t, growRaw(chance, mover(s, x)))
			}
			for range 5 {
				toTheEnd(t, chance, a, s, x, 100)
			}
		}
	}
	// All that either of both may choose, of 8: 255 is a move, 256 is none.
	a := idle(8, 3)
	for _, s := range []api.Split{{Env: 255}, {Env: 254, Sys: 1}} {
		p := begun(t, a, s, of(t, a, s))
		for _, raw := range []uint64{256, 511, 255, 254, 256} {
			p.plays(t, raw)
		}
	}
}

// Many states

// ladder tells an automaton of so many states that leads from rung to rung, the order of the rungs being given, to the last one, which alone accepts. A letter goes on by a rung where q is as p is, or else falls to the first rung, the state 0.
func ladder(order []int) api.Auto {
	rows := make([][]int, len(order))
	for at, q := range order {
		up := order[min(at+1, len(order)-1)]
		rows[q] = []int{up, 0, 0, up}
	}
	accept := make([]bool, len(order))
	accept[order[len(order)-1]] = true
	return built(2, accept, rows)
}

func TestLadders(t *testing.T) {
	t.Parallel()
	chance := rand.New(rand.NewSource(15))
	for _, states := range []int{2, 3, 17, 256} {
		order := make([]int, states)
		for i := range order {
			order[i] = i
		}
		chance.Shuffle(states-1, func(i, j int) { order[1+i], order[1+j] = order[1+j], order[1+i] })
		a := ladder(order)
		r := made(t, a, one(), of(t, a, one()))
		list := growMoves(chance, 1, states-1)
		for i, move := range list {
			stands(t, r, order[i], states-1-i, false, told(r.Trace()))
			moves(t, r, uint64(move), 3*move)
		}
		stands(t, r, order[states-1], 0, true, told(r.Trace()))
		noMove(t, r, 0, api.ErrDone)
		for i := states - 2; i >= 0; i-- {
			backs(t, r, api.OK)
			if r.State() != order[i] || r.Rank() != states-1-i || r.Over() || len(r.Trace()) != i {
				t.Fatal(states, i, r.State(), r.Rank())
			}
		}
		// The environment alone falls from the last rung but one.
		r = made(t, a, api.Split{Env: 3}, of(t, a, api.Split{Env: 3}))
		for i := range 1024 {
			said := api.Letter(0)
			if i%(states-1) == states-2 {
				said = 1
			}
			says(t, r, said)
			moves(t, r, 0, said)
		}
		noMove(t, r, 0, api.ErrLong)
	}
}

// crowded tells an automaton with 256 states and with just 4,096 nodes, of which each leads to states near by.
func crowded(chance *rand.Rand) api.Auto {
	st, _ := guard.New(8)
	a := api.Auto{Props: 8}
	for q := range 256 {
		// On so many of the last propositions the state hangs: no more than there is room for.
		many := 8
		for st.Len()+1<<many-1 > 4096 {
			many--
		}
		where := make([]int, 256)
		for l := range where {
			where[l] = max(0, min(255, q+chance.Intn(8)-3))
		}
		for l := range where {
			where[l] = where[l>>(8-many)<<(8-many)]
		}
		a.Accept = append(a.Accept, q == 255)
		ref, _ := st.Add(where)
		a.Guard = append(a.Guard, ref)
	}
	a.Nodes = st.Nodes()
	return a
}

func TestAsManyStatesAndNodesAsThereMayBe(t *testing.T) {
	t.Parallel()
	chance := rand.New(rand.NewSource(16))
	a := crowded(chance)
	if len(a.Accept) != 256 || len(a.Nodes) != 4096 {
		t.Fatal(len(a.Accept), len(a.Nodes))
	}
	for _, s := range []api.Split{{Env: 1, Sys: 254}, {Env: 15, Sys: 240}, {Env: 255}, {Sys: 255}} {
		x := of(t, a, s)
		p := begun(t, a, s, x)
		for range 100 {
			p.plays(t, growRaw(chance, mover(s, x)))
		}
	}
	a.Nodes = append(a.Nodes, api.Node{P: 7, Lo: -256, Hi: -255})
	refused(t, a, api.Split{Env: 255}, api.ErrAuto)
}

// P1, and the rules

// spoil writes over a list, and over its spare room.
func spoil[T any](l []T, with T) {
	l = l[:cap(l)]
	for i := range l {
		l[i] = with
	}
}

// spoilAuto writes over all lists of an automaton.
func spoilAuto(a api.Auto) {
	spoil(a.Accept, true)
	spoil(a.Guard, -1)
	spoil(a.Nodes, api.Node{P: 77, Lo: 77, Hi: 77})
}

// spoilStrategy writes over all lists of a strategy.
func spoilStrategy(x api.Strategy) {
	for _, l := range x.Reply {
		spoil(l, 77)
	}
	spoil(x.Ranks, 77)
	spoil(x.Choice, 77)
	spoil(x.Reply, letters("9 9 9"))
}

func TestATraceIsNewMemory(t *testing.T) {
	t.Parallel()
	chance := rand.New(rand.NewSource(17))
	for range 200 {
		p := grown(t, chance, chance.Intn(4), 1+chance.Intn(8))
		for range 20 {
			p.plays(t, uint64(growMoves(chance, mover(p.m.s, p.m.x), 1)[0]))
			one, other := p.Trace(), p.Trace()
			was := told(other)
			spoil(one, 99)
			if told(other) != was {
				t.Fatal(was, other)
			}
			p.agrees(t)
			// One that was told before stands, whatever is played later.
			p.returns(t)
			p.plays(t, uint64(growMoves(chance, mover(p.m.s, p.m.x), 1)[0]))
			if told(other) != was {
				t.Fatal(was, other)
			}
		}
	}
}

// roomy tells a list with spare room, in which other things stand.
func roomy[T any](l []T, room ...T) []T { return append(slices.Clip(l), room...)[:len(l)] }

// wide tells a list with three of its spare room.
func wide[T any](l []T) []T { return l[:len(l)+3] }

// roomyAuto tells an automaton whose lists have spare room, in which other things stand.
func roomyAuto(a api.Auto) api.Auto {
	return api.Auto{
		Props:  a.Props,
		Accept: roomy(a.Accept, true, false, true),
		Guard:  roomy(a.Guard, 99, -99, 0),
		Nodes:  roomy(a.Nodes, api.Node{P: 9, Lo: 9, Hi: 9}, api.Node{}, api.Node{P: -1, Lo: -1, Hi: -1}),
	}
}

// roomyStrategy tells a strategy whose lists have spare room, in which other things stand.
func roomyStrategy(x api.Strategy) api.Strategy {
	y := api.Strategy{Wins: x.Wins, Ranks: roomy(x.Ranks, -1, 0, 7), Choice: roomy(x.Choice, 0, 255, 1)}
	for _, l := range x.Reply {
		y.Reply = append(y.Reply, roomy(l, 0, 255, 1))
	}
	y.Reply = roomy(y.Reply, nil, letters("0 1 2 3"), letters("255 0 0 0"))
	return y
}

// wholeOf tells an automaton and a strategy with what stands in their spare room.
func wholeOf(a api.Auto, x api.Strategy) string {
	b := api.Auto{Props: a.Props, Accept: wide(a.Accept), Guard: wide(a.Guard), Nodes: wide(a.Nodes)}
	y := api.Strategy{Wins: x.Wins, Ranks: wide(x.Ranks), Choice: wide(x.Choice)}
	for q, l := range wide(x.Reply) {
		if q < len(x.Reply) {
			l = wide(l)
		}
		y.Reply = append(y.Reply, l)
	}
	return toldAuto(b) + toldStrategy(y)
}

func TestNothingHandedInIsChangedOrReadBehindItsEnd(t *testing.T) {
	t.Parallel()
	chance := rand.New(rand.NewSource(18))
	for range 300 {
		n, states := chance.Intn(5), 1+chance.Intn(6)
		a, s, x := growGame(t, chance, n, states)
		a, x = roomyAuto(a), roomyStrategy(x)
		was := wholeOf(a, x)
		p := begun(t, a, s, x)
		for range 10 {
			p.plays(t, growRaw(chance, mover(s, x)))
			p.Choice()
			spoil(p.Trace(), 77)
		}
		for range 5 {
			p.returns(t)
		}
		// What stands behind the end makes no list whole.
		for _, by := range []func(x *api.Strategy){
			func(x *api.Strategy) { x.Ranks = x.Ranks[:states-1] },
			func(x *api.Strategy) { x.Reply = x.Reply[:states-1] },
			func(x *api.Strategy) { x.Choice = x.Choice[:states-1] },
		} {
			less := x
			by(&less)
			noNew(t, a, s, less, api.ErrKeeps)
		}
		refused(t, a, api.Split{Env: 1, Sys: 1}, api.ErrSplit)
		if wholeOf(a, x) != was {
			t.Fatal(was, wholeOf(a, x))
		}
	}
}

// TestNothingHandedInIsKept: whatever is written there behind New, the referee goes on as it would have gone.
func TestNothingHandedInIsKept(t *testing.T) {
	t.Parallel()
	chance := rand.New(rand.NewSource(19))
	for range 500 {
		a, s, x := growGame(t, chance, chance.Intn(4), 1+chance.Intn(8))
		a, x = roomyAuto(a), roomyStrategy(x)
		p := begun(t, a, s, x)
		for range chance.Intn(4) {
			p.plays(t, growRaw(chance, mover(s, x)))
		}
		spoilAuto(a)
		spoilStrategy(x)
		p.agrees(t)
		for range 12 {
			p.plays(t, growRaw(chance, mover(s, p.m.x)))
			if chance.Intn(3) == 0 {
				p.returns(t)
			}
		}
	}
}

// TestEachListByItselfIsNotKept: of the automaton and of the strategy.
func TestEachListByItselfIsNotKept(t *testing.T) {
	type st = api.Strategy
	for _, by := range []func(a *api.Auto, x *st){
		func(a *api.Auto, x *st) { spoil(a.Accept, true) },
		func(a *api.Auto, x *st) { spoil(a.Guard, -5) },
		func(a *api.Auto, x *st) { spoil(a.Nodes, api.Node{P: 0, Lo: -5, Hi: -6}) },
		func(a *api.Auto, x *st) { spoil(x.Ranks, 5) },
		func(a *api.Auto, x *st) { spoil(x.Choice, 1) },
		func(a *api.Auto, x *st) { spoil(x.Choice, 0) },
		func(a *api.Auto, x *st) { spoil(x.Reply, letters("0 0")) },
		func(a *api.Auto, x *st) { spoil(x.Reply[0], 0); spoil(x.Reply[1], 1) },
	} {
		a, x := many(), ofMany()
		r := made(t, a, one(), x)
		by(&a, &x)
		stands(t, r, 0, 2, false, "")
		moves(t, r, 1, 3)
		stands(t, r, 2, 0, true, "3")
		backs(t, r, api.OK)
		moves(t, r, 0, 2)
		moves(t, r, 1, 3)
		stands(t, r, 2, 0, true, "2 3")
		b, y := kept(), ofKept()
		y.Reply[0], y.Reply[1] = make([]api.Letter, 0, 2), make([]api.Letter, 0, 2)
		r = made(t, b, one(), y)
		by(&b, &y)
		says(t, r, 1)
		moves(t, r, 0, 1)
		says(t, r, 0)
		moves(t, r, 0, 0)
		says(t, r, 1)
		stands(t, r, 2, -1, false, "1 0")
	}
}

func TestRefereesOfOneStrategyLeaveEachOtherAsTheyAre(t *testing.T) {
	t.Parallel()
	a, x := until(), second()
	l, m := made(t, a, two(), x), made(t, a, two(), x)
	moves(t, l, 1, 1)
	stands(t, m, 0, -1, false, "")
	moves(t, m, 0, 0)
	stands(t, l, 0, -1, false, "1")
	stands(t, m, 1, -1, false, "0")
	backs(t, l, api.OK)
	backs(t, l, api.ErrMissing)
	stands(t, m, 1, -1, false, "0")
	chance := rand.New(rand.NewSource(20))
	for range 200 {
		a, s, x := growGame(t, chance, chance.Intn(4), 1+chance.Intn(8))
		pairs := []pair{begun(t, a, s, x), begun(t, a, s, x), begun(t, a, s, x)}
		for range 30 {
			p := pairs[chance.Intn(3)]
			if chance.Intn(3) == 0 {
				p.returns(t)
			} else {
				p.plays(t, growRaw(chance, mover(s, x)))
			}
			for _, other := range pairs {
				other.agrees(t)
			}
		}
	}
}

func TestNilAndEmptyAreTheSame(t *testing.T) {
	for _, l := range [][]api.Node{nil, {}, make([]api.Node, 0, 8)} {
		a := api.Auto{Props: 2, Accept: bools("01"), Guard: []int{-2, -2}, Nodes: l}
		for _, none := range [][]api.Letter{nil, {}, make([]api.Letter, 0, 8)} {
			x := strategy("sys", "1 0", "0 0;", "0 0")
			x.Reply[1] = none
			r := made(t, a, one(), x)
			moves(t, r, 1, 1)
			stands(t, r, 1, 0, true, "1")
			x.Choice = none
			noNew(t, a, one(), x, api.ErrKeeps)
			y := strategy("env", "-1 0", ";", "0 0")
			y.Reply[0], y.Reply[1] = none, none
			r = made(t, leads(2, "01", "0 0 0 0; 1*4"), one(), y)
			moves(t, r, 2, 2)
			stands(t, r, 0, -1, false, "2")
		}
	}
}

// odd tells a number such as no one asks for.
func odd(chance *rand.Rand) int {
	switch chance.Intn(4) {
	case 0:
		return []int{math.MinInt, math.MaxInt, math.MinInt + 1, math.MaxInt - 1, 1 << 32, -1 << 32, 256, 4096}[chance.Intn(8)]
	case 1:
		return int(chance.Uint64())
	}
	return chance.Intn(9) - 4
}

// oddAuto tells an automaton that may be played, or such as no one asks for.
func oddAuto(chance *rand.Rand) api.Auto {
	if chance.Intn(4) > 0 {
		a := growAny(chance, chance.Intn(3), 1+chance.Intn(4))
		a.Accept[0] = chance.Intn(8) == 0
		return a
	}
	a := api.Auto{Props: odd(chance), Accept: make([]bool, chance.Intn(4)), Guard: make([]int, chance.Intn(4)), Nodes: make([]api.Node, chance.Intn(3))}
	for i := range a.Guard {
		a.Guard[i] = odd(chance)
	}
	for i := range a.Nodes {
		a.Nodes[i] = api.Node{P: odd(chance), Lo: odd(chance), Hi: odd(chance)}
	}
	return a
}

// oddStrategy tells a strategy for so many states, such as no one asks for.
func oddStrategy(chance *rand.Rand, states int) api.Strategy {
	x := api.Strategy{Wins: chance.Intn(2) == 0}
	for range max(0, states+chance.Intn(3)/2*odd(chance)%5) {
		x.Ranks = append(x.Ranks, odd(chance))
		x.Reply = append(x.Reply, growMoves(chance, api.Letter(chance.Intn(256)), chance.Intn(4)))
		x.Choice = append(x.Choice, api.Letter(chance.Intn(4)))
	}
	return x
}

// refusal tells what New must answer, by the words of the chapters.
func refusal(a api.Auto, s api.Split, x api.Strategy) api.Errno {
	switch {
	case guard.Check(a) != api.OK || a.Accept[0]:
		return api.ErrAuto
	case !isSplit(a.Props, s):
		return api.ErrSplit
	case len(faults(a, s, x)) > 0:
		return api.ErrKeeps
	}
	return api.OK
}

// oddGame tells an automaton, a split and a strategy of all kinds.
func oddGame(chance *rand.Rand) (api.Auto, api.Split, api.Strategy) {
	a := oddAuto(chance)
	s := api.Split{Env: api.Letter(chance.Intn(256)), Sys: api.Letter(chance.Intn(256))}
	if chance.Intn(4) > 0 {
		s = growSplit(chance, min(8, max(0, a.Props)))
	}
	x := oddStrategy(chance, len(a.Accept))
	if chance.Intn(4) > 0 && board.Check(a, s) == api.OK {
		x = growStrategy(chance, a, s)
	}
	return a, s, x
}

func TestCallsAreCalm(t *testing.T) {
	t.Parallel()
	chance := rand.New(rand.NewSource(21))
	met := map[api.Errno]int{}
	for range 10000 {
		a, s, x := oddGame(chance)
		must := refusal(a, s, x)
		met[must]++
		if must != api.OK {
			noNew(t, a, s, x, must)
			r, _ := play.New(a, s, x)
			noReferee(t, r)
		} else {
			p := begun(t, a, s, x)
			for range 10 {
				if chance.Intn(4) == 0 {
					met[p.returns(t)]++
				} else {
					met[p.plays(t, uint64(odd(chance)))]++
				}
			}
		}
		if t.Failed() {
			t.FailNow()
		}
	}
	for _, err := range []api.Errno{api.OK, api.ErrAuto, api.ErrSplit, api.ErrKeeps, api.ErrMissing, api.ErrMove, api.ErrDone} {
		if met[err] < 500 {
			t.Error(err, met[err])
		}
	}
}

// story tells all that a referee answers while moves are played, and taken back.
func story(r *play.Referee, list []api.Letter) string {
	var words []string
	tell := func(numbers ...int) { words = append(words, told(numbers)+" of "+told(r.Trace())) }
	for _, move := range list {
		said, err := r.Choice()
		tell(int(said), int(err), r.State(), r.Rank())
		l, err := r.Move(uint64(move))
		tell(int(l), int(err))
		l, err = r.Move(1 << 40)
		tell(int(l), int(err))
	}
	for range 2 * len(list) {
		tell(int(r.Back()), r.State(), r.Rank())
	}
	return strings.Join(words, "; ")
}

func TestAnswersHangOnArgumentsAlone(t *testing.T) {
	t.Parallel()
	chance := rand.New(rand.NewSource(22))
	for range 10 {
		a, s, x := growGame(t, chance, 5, 20)
		list := growMoves(chance, mover(s, x), 20)
		must := story(made(t, a, s, x), list)
		shared := made(t, a, s, x)
		shared.Move(uint64(list[0]))
		state, trace := shared.State(), told(shared.Trace())
		var group sync.WaitGroup
		for range 8 {
			group.Go(func() {
				for range 5 {
					// Each plays with one of its own; all ask one with which none plays.
					r, err := play.New(a, s, x)
					if err != api.OK || story(r, list) != must {
						t.Error("another story at another time", err)
					}
					stands(t, shared, state, x.Ranks[state], a.Accept[state], trace)
				}
			})
		}
		group.Wait()
	}
}
