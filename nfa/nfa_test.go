package nfa_test

import (
	"math"
	"math/rand"
	"slices"
	"strconv"
	"strings"
	"sync"
	"testing"

	"rejoinder/api"
	"rejoinder/kernel"
	"rejoinder/letter"
	"rejoinder/mean"
	"rejoinder/nfa"
	"rejoinder/prog"
)

// of asks Of; what is refused has no other answers.
func of(t *testing.T, n int, k []api.Tok) (api.Nfa, api.Errno) {
	t.Helper()
	a, err := nfa.Of(n, k)
	if err != api.OK && toldNfa(a) != toldNfa(api.Nfa{}) {
		t.Errorf("Of(%d, %.80s): an answer beside %d: %.80s", n, told(k), err, toldNfa(a))
	}
	return a, err
}

// made asks Of of what it may not refuse.
func made(t *testing.T, n int, k []api.Tok) api.Nfa {
	t.Helper()
	a, err := of(t, n, k)
	if err != api.OK {
		t.Fatalf("Of(%d, %d tokens, %.80s): %d", n, len(k), told(k), err)
	}
	if err := nfa.Check(a); err != api.OK {
		t.Fatalf("Of(%d, %.80s): Check tells %d", n, told(k), err)
	}
	return a
}

// refused asks Of of what it must refuse.
func refused(t *testing.T, n int, k []api.Tok, must api.Errno) {
	t.Helper()
	if _, err := of(t, n, k); err != must {
		t.Errorf("Of(%d, %d tokens, %.80s): %d, not %d", n, len(k), told(k), err, must)
	}
}

// sameAsModel asks Of, which must tell what the model says.
func sameAsModel(t *testing.T, n int, k []api.Tok) (api.Nfa, api.Errno) {
	t.Helper()
	a, err := of(t, n, k)
	b, must := modelOf(n, k)
	if err != must || toldNfa(a) != toldNfa(b) {
		t.Fatalf("Of(%d, %s) = %d, %.400s\nnot %d, %.400s", n, told(k), err, toldNfa(a), must, toldNfa(b))
	}
	return a, err
}

// runs asks Run and Accepts of what they may not refuse: they must tell what the model says.
func runs(t *testing.T, a api.Nfa, tr []api.Letter) ([]int, bool) {
	t.Helper()
	states, err := nfa.Run(a, tr)
	must := modelRun(a, tr)
	if err != api.OK || !slices.Equal(states, must) {
		t.Fatalf("Run(%.200s; %v) = %v, %d, not %v", toldNfa(a), tr, states, err, must)
	}
	is, err := nfa.Accepts(a, tr)
	if err != api.OK || is != slices.ContainsFunc(must, func(s int) bool { return a.Final[s] }) {
		t.Fatalf("Accepts(%.200s; %v) = %t, %d", toldNfa(a), tr, is, err)
	}
	return states, is
}

// runsRefused asks Run and Accepts of what they must refuse, with no other answers.
func runsRefused(t *testing.T, a api.Nfa, tr []api.Letter, must api.Errno) {
	t.Helper()
	if states, err := nfa.Run(a, tr); err != must || len(states) > 0 {
		t.Errorf("Run(%.80s; %d letters) = %v, %d, not %d", toldNfa(a), len(tr), states, err, must)
	}
	if is, err := nfa.Accepts(a, tr); err != must || is {
		t.Errorf("Accepts(%.80s; %d letters) = %t, %d, not %d", toldNfa(a), len(tr), is, err, must)
	}
}

// satisfied tells whether a trace satisfies a formula at 0, the empty one at its end.
func satisfied(t *testing.T, k []api.Tok, tr []api.Letter) bool {
	t.Helper()
	is, err := mean.At(k, tr, 0)
	if err != api.OK {
		t.Fatalf("mean does not take %.80s: %d", told(k), err)
	}
	return is
}

// The chapter's examples

func TestExamples(t *testing.T) {
	a := made(t, 1, tokens("P0"))
	if toldNfa(a) != "1: 1 0; 0; 01; none 1; 1 1" {
		t.Error(toldNfa(a))
	}
	if states, err := nfa.Run(a, trace("1 0")); !slices.Equal(states, []int{1}) || err != api.OK {
		t.Error(states, err)
	}
	if a := made(t, 0, tokens("False")); toldNfa(a) != "0: ; ; " {
		t.Error(toldNfa(a))
	}
	u := made(t, 2, tokens("P0 P1 Until"))
	for s, must := range map[string]bool{"1 2": true, "1 1": false, "": false} {
		if is, err := nfa.Accepts(u, trace(s)); is != must || err != api.OK {
			t.Error(s, is, err)
		}
	}
	if a := made(t, 1, tokens("P0 Next")); toldSets(a.States) != "1 6 0" {
		t.Error(toldSets(a.States))
	}
	refused(t, 1, tokens("P1"), api.ErrArg)
	refused(t, 9, tokens("P0"), api.ErrArg)
}

// P13.1: what is refused

func TestHowManyPropositionsThereMayBe(t *testing.T) {
	beyond := []int{-1, -2, -8, 9, 10, 16, 63, 64, 65, 255, 256, 257, 264, math.MinInt, math.MaxInt, math.MinInt32, math.MaxInt32, 1 << 32, 1<<32 + 1, 1<<40 + 8}
	for _, n := range beyond {
		for _, s := range []string{"True", "False", "P0", "P7", "More"} {
			refused(t, n, tokens(s), api.ErrArg)
		}
		// It is told ahead of all else.
		refused(t, n, nil, api.ErrArg)
		refused(t, n, tokens("P0 Finally"), api.ErrArg)
		refused(t, n, tokens("P0 Next*2048"), api.ErrArg)
		refused(t, n, many(65, "And"), api.ErrArg)
		refused(t, n, pairs(9, ""), api.ErrArg)
	}
	for n := range 9 {
		for p := range 8 {
			prop := []api.Tok{{Op: api.Prop, P: uint8(p)}}
			for _, k := range [][]api.Tok{prop, append(slices.Clip(prop), tokens("Not")...), append(tokens("True"), append(slices.Clip(prop), tokens("Or")...)...), append(slices.Clip(prop), tokens("Step Star False Dia")...), append(slices.Clip(prop), tokens("Test True Box")...), slices.Concat(tokens("False"), prop, tokens("And Next"))} {
				if p >= n {
					refused(t, n, k, api.ErrArg)
					continue
				}
				if a := made(t, n, k); a.Props != n || len(a.Next) > 0 && len(a.Next[0]) != 1<<n {
					t.Error(n, told(k), toldNfa(a))
				}
				sameAsModel(t, n, k)
			}
		}
		for _, s := range []string{"True", "False", "More", "Over", "More Next", "True Step Star Over Dia"} {
			if a := made(t, n, tokens(s)); a.Props != n {
				t.Error(n, s, a.Props)
			}
			sameAsModel(t, n, tokens(s))
		}
	}
}

// noKernel tells tokens that are no kernel formula's.
func noKernel() [][]api.Tok {
	var all [][]api.Tok
	for _, s := range []string{
		"", "P0 P1", "P0 And", "And", "Next", "Not", "P0 Until", "P0 P1 Dia", "P0 Step", "P0 Step Star", "P0 Test", "P0 Step P1 Test Seq", "P0 Step P1", "P0 Step Next", "Star", "Box",
		"True Not", "P0 Not Not", "P0 P1 And Not", "P0 Next Not", "Last", "P0 Finally", "P0 Globally", "P0 P1 Imp", "P0 P1 Iff", "P0 Finally Test P1 Dia", "P0 P1 Imp Step P1 Dia",
		"More Step P0 Dia", "P0 Next Step P1 Dia", "P0 P1 Until Step P1 Dia", "P7*2048",
	} {
		all = append(all, tokens(s))
	}
	for _, tok := range []api.Tok{{Op: api.Prop, P: 8}, {Op: api.Prop, P: 255}, {Op: api.True, P: 1}, {Op: api.And, P: 1}, {Op: 24}, {Op: 32}, {Op: 255, P: 255}} {
		all = append(all, []api.Tok{tok}, []api.Tok{{Op: api.Prop}, tok}, []api.Tok{{Op: api.Prop}, {Op: api.Prop, P: 1}, tok})
	}
	// Formulas that New would refuse beside their form.
	return append(all, slices.Concat(many(65, "And"), tokens("Finally")), slices.Concat(pairs(11, ""), tokens("Last And")))
}

func TestWhatIsNoKernelFormulaIsRefused(t *testing.T) {
	for _, k := range noKernel() {
		if kernel.Check(k) != api.ErrForm {
			t.Error("the test's tokens are a kernel formula's:", told(k))
		}
		// Ahead of a proposition from n on.
		for n := range 9 {
			refused(t, n, k, api.ErrForm)
		}
	}
	// Too many tokens are told ahead of their form, and of their propositions.
	for _, k := range [][]api.Tok{tokens("P0 Next*2048"), tokens("P7*2049"), tokens("And*3000"), tokens("True Next*2048"), make([]api.Tok, 1000000), append(tokens("P0 Next*2048"), api.Tok{Op: 99})} {
		for n := range 9 {
			refused(t, n, k, api.ErrLong)
		}
	}
	// Just as many as may be.
	made(t, 1, tokens("True Weak P0*1023 And*1023"))
	refused(t, 0, tokens("True Weak P0*1023 And*1023"), api.ErrArg)
}

func TestAFormulaWhoseNewIsRefused(t *testing.T) {
	for _, k := range [][]api.Tok{many(65, "And"), many(65, "Or"), many(100, "And"), pairs(11, ""), append(many(64, "Or"), tokens("P0 False And Or")...), append(pairs(10, ""), tokens("True Or")...)} {
		if _, err := prog.New(k); err != api.ErrObligations || kernel.Check(k) != api.OK {
			t.Fatal("the test's formula is not refused:", told(k), err)
		}
		refused(t, 8, k, api.ErrObligations)
		// A proposition from n on is told ahead of it.
		for n := range 8 {
			refused(t, n, k, api.ErrArg)
		}
	}
}

func TestAFormulaThatIsRefusedByALaterStep(t *testing.T) {
	for _, k := range [][]api.Tok{
		tokens("P0 Next*63"), tokens("P0 Weak*63"), tokens("P0 Next*2047"), append(tokens("P0"), slices.Repeat(tokens("P1 Until"), 65)...),
		// Too many sets.
		append(pairs(11, ""), tokens("Next")...), append(pairs(11, ""), tokens("Next*5")...), pairs(11, "Next"), append(pairs(11, "Next"), tokens("Next*3")...),
		// Where the letter P7 is asked ahead of them all nothing is to do without it: no other letter is refused.
		slices.Concat(tokens("P7 Step"), pairs(11, ""), tokens("Dia")), slices.Concat(tokens("P0 P1 P2 P3 P4 P5 P6 P7 And*7 Step"), pairs(11, ""), tokens("Dia")),
	} {
		if _, err := prog.New(k); err != api.OK {
			t.Fatal("the test's formula is refused at once:", told(k), err)
		}
		refused(t, 8, k, api.ErrObligations)
		sameAsModel(t, 8, k)
	}
	refused(t, 1, tokens("P0 Next*63"), api.ErrObligations)
	refused(t, 0, tokens("P0 Next*63"), api.ErrArg)
	refused(t, 0, tokens("More Weak Next*62"), api.ErrObligations)
	// As many obligations as may be.
	if a := made(t, 1, tokens("P0 Next*62")); len(a.States) != 64 {
		t.Error(len(a.States))
	}
	if a := made(t, 0, tokens("True Next*63")); len(a.States) != 65 {
		t.Error(len(a.States))
	}
	// What no letter leads to is refused by nobody.
	made(t, 8, slices.Concat(tokens("False Step"), pairs(11, ""), tokens("Dia")))
}

// anyOf tells so many different obligations, from one on, of which one is asked.
func anyOf(from, n int) []api.Tok {
	k := different(from)
	for i := 1; i < n; i++ {
		k = slices.Concat(k, different(from+i), tokens("Or"))
	}
	return k
}

// square tells a formula of 252 states, and one more for each of so many obligations beside it.
func square(more int) []api.Tok {
	k := slices.Concat(anyOf(0, 15), anyOf(15, 15), tokens("And"))
	for i := range more {
		k = slices.Concat(k, different(30+i), tokens("Or"))
	}
	return k
}

func TestJustAsManyStatesAsMayBe(t *testing.T) {
	for more := range 5 {
		a, err := sameAsModel(t, 8, square(more))
		if len(a.States) != 252+more || err != api.OK {
			t.Error(more, len(a.States), err)
		}
	}
	for more := 5; more < 10; more++ {
		refused(t, 8, square(more), api.ErrStates)
		sameAsModel(t, 8, square(more))
	}
	// The last one is run to, and through.
	a := made(t, 8, square(4))
	if states, is := runs(t, a, trace("255 0 255")); !is || len(states) != 1 {
		t.Error(states, is)
	}
	for x := range 256 {
		runs(t, a, []api.Letter{api.Letter(x), api.Letter(255 - x)})
	}
	// Always again P0 so many letters behind: 2^n + 1 states.
	for n := 1; n <= 7; n++ {
		if a := made(t, 1, tokens("False True P0 Next*"+strconv.Itoa(n)+" Until Release")); len(a.States) != 1<<n+1 {
			t.Error(n, len(a.States))
		}
	}
	refused(t, 1, tokens("False True P0 Next*8 Until Release"), api.ErrStates)
	// So many in Start, and the empty set.
	if a := made(t, 8, many(64, "Or")); len(a.States) != 65 || len(a.Start) != 64 {
		t.Error(len(a.States), len(a.Start))
	}
	refused(t, 8, pairs(8, ""), api.ErrStates) // 256 in Start, and what is behind them
	refused(t, 8, pairs(9, ""), api.ErrStates) // 512 in Start
	refused(t, 8, pairs(10, ""), api.ErrStates)
	refused(t, 8, pairs(9, "Next"), api.ErrStates)
	refused(t, 8, pairs(10, "Next"), api.ErrStates)
}

// brief tells the n-th of many obligations that leave nothing to do, or are not satisfied: the leaf, with Tests ahead of it.
func brief(leaf string, n int) []api.Tok {
	return slices.Concat(tokens(leaf), slices.Repeat(tokens("Test True Dia"), n+1))
}

// briefPairs tells n pairs of such obligations, one of each pair being asked: 2^n sets.
func briefPairs(leaf string, n int) []api.Tok {
	var k []api.Tok
	for i := range n {
		k = slices.Concat(k, brief(leaf, 2*i), brief(leaf, 2*i+1), tokens("Or"))
	}
	return slices.Concat(k, tokens("And*" + strconv.Itoa(n))[1:])
}

func TestManyStatesAtTheBeginning(t *testing.T) {
	// The letter 1 leads from each of them to the empty set, which is one more.
	a, _ := sameAsModel(t, 1, briefPairs("P0", 7))
	if len(a.Start) != 128 || len(a.States) != 129 || a.States[128] != 0 {
		t.Error(len(a.Start), len(a.States))
	}
	refused(t, 1, briefPairs("P0", 8), api.ErrStates)
	refused(t, 1, briefPairs("P0", 9), api.ErrStates)
	// No letter leads from one of them anywhere.
	over := briefPairs("Over", 8)
	a, _ = sameAsModel(t, 1, over)
	if len(a.Start) != 256 || len(a.States) != 256 || slices.Contains(a.Final, false) {
		t.Error(len(a.Start), len(a.States))
	}
	if states, is := runs(t, a, nil); len(states) != 256 || !is {
		t.Error(len(states), is)
	}
	if states, is := runs(t, a, trace("1")); len(states) != 0 || is {
		t.Error(len(states), is)
	}
	// Just one more of them.
	more := slices.Concat(over, brief("Over", 16), tokens("Or"))
	if p, err := prog.New(more); err != api.OK || len(p.Start()) != 257 {
		t.Fatal("the test's formula does not begin with 257 sets", err)
	}
	refused(t, 1, more, api.ErrStates)
	sameAsModel(t, 1, more)
}

// behind tells a formula that is asked behind each letter that satisfies another one, by a Dia or a Box.
func behind(letters string, k []api.Tok, op string) []api.Tok {
	return slices.Concat(tokens(letters+" Step"), k, tokens(op))
}

func TestWhicheverRefusalIsMetFirst(t *testing.T) {
	manyStates, manySets := pairs(9, ""), pairs(11, "")
	slow := tokens("False True P0 Next*8 Until Release")
	for _, c := range []struct {
		a, b []api.Tok
		op   string
		must api.Errno
	}{
		// Of one state letter by letter.
		{behind("P7", manyStates, "Box"), behind("P7 Not", manySets, "Box"), "And", api.ErrObligations},
		{behind("P7", manySets, "Box"), behind("P7 Not", manyStates, "Box"), "And", api.ErrStates},
		{behind("P7 Not", manyStates, "Box"), behind("P7", manySets, "Box"), "And", api.ErrStates},
		{behind("P7 Not", manySets, "Box"), behind("P7", manyStates, "Box"), "And", api.ErrObligations},
		// State by state: all letters of the first one.
		{behind("P7", manyStates, "Dia"), behind("P7 Not", manySets, "Dia"), "Or", api.ErrStates},
		{behind("P7", manySets, "Dia"), behind("P7 Not", manyStates, "Dia"), "Or", api.ErrObligations},
		// Start's states ahead of all Steps.
		{manyStates, tokens("P0 Next*63"), "Or", api.ErrStates},
		{tokens("P0 Next*63"), manyStates, "Or", api.ErrStates},
		{manyStates, behind("True", manySets, "Dia"), "Or", api.ErrStates},
		// Of one letter the whole Step ahead of the states of its list.
		{append(manyStates, tokens("Next")...), append(many(65, "And"), tokens("Next")...), "And", api.ErrObligations},
		{append(many(65, "And"), tokens("Next")...), append(manyStates, tokens("Next")...), "And", api.ErrObligations},
		// The 257th state is met behind eight letters, or so.
		{slow, append(manySets, tokens("Next*3")...), "Or", api.ErrObligations},
		{append(manySets, tokens("Next*3")...), slow, "Or", api.ErrObligations},
		{slow, append(manySets, tokens("Next*20")...), "Or", api.ErrStates},
		{append(manySets, tokens("Next*20")...), slow, "Or", api.ErrStates},
	} {
		k := slices.Concat(c.a, c.b, tokens(c.op))
		if _, err := prog.New(k); err != api.OK {
			t.Fatal("the test's formula is refused at once:", told(k), err)
		}
		refused(t, 8, k, c.must)
		sameAsModel(t, 8, k)
	}
}

// P13.1: the automaton

// automaton is what Of must tell of a formula.
type automaton struct {
	n            int
	formula, all string
}

func (c automaton) asks(t *testing.T) {
	t.Helper()
	a := made(t, c.n, tokens(c.formula))
	if toldNfa(a) != c.all {
		t.Errorf("Of(%d, %s) = %s, not %s", c.n, c.formula, toldNfa(a), c.all)
	}
	sameAsModel(t, c.n, tokens(c.formula))
}

func TestEachKindOfFormula(t *testing.T) {
	for _, c := range []automaton{
		{0, "True", "0: 0; 0; 1; 0"},
		{1, "True", "1: 0; 0; 1; 0 0"},
		{3, "True", "3: 0; 0; 1; 0 0 0 0 0 0 0 0"},
		{0, "False", "0: ; ; "},
		{1, "False", "1: ; ; "},
		{8, "False", "8: ; ; "},
		{1, "P0", "1: 1 0; 0; 01; none 1; 1 1"},
		{2, "P0", "2: 1 0; 0; 01; none 1 none 1; 1 1 1 1"},
		{2, "P1", "2: 1 0; 0; 01; none none 1 1; 1 1 1 1"},
		{1, "P0 Not", "1: 1 0; 0; 11; 1 none; 1 1"},
		{0, "More", "0: 1 0; 0; 01; 1; 1"},
		{1, "More", "1: 1 0; 0; 01; 1 1; 1 1"},
		{0, "Over", "0: 1; 0; 1; none"},
		{1, "Over", "1: 1; 0; 1; none none"},
		{0, "More Next", "0: 1 2 0; 0; 001; 1; 2; 2"},
		{1, "P0 Next", "1: 1 6 0; 0; 001; 1 1; none 2; 2 2"},
		{0, "Over Weak", "0: 1 2; 0; 11; 1; none"},
		{1, "P0 Weak", "1: 1 2 4 0; 0; 1101; (1 2) (1 2); none none; none 3; 3 3"},
		{1, "P0 True And", "1: 1 0; 0; 01; none 1; 1 1"},
		{1, "P0 False And", "1: ; ; "},
		{1, "P0 True Or", "1: 0; 0; 1; 0 0"},
		{2, "P0 P1 And", "2: 3 0; 0; 01; none none none 1; 1 1 1 1"},
		{2, "P0 P1 Or", "2: 1 2 0; 0 1; 001; none 2 none 2; none none 2 2; 2 2 2 2"},
		{2, "P0 P1 Until", "2: 1 0; 0; 01; none 0 1 1; 1 1 1 1"},
		{2, "P0 P1 Release", "2: 1 0; 0; 11; none none 0 1; 1 1 1 1"},
	} {
		c.asks(t)
	}
}

func TestEachKindOfPath(t *testing.T) {
	for _, c := range []automaton{
		{2, "P0 Step P1 Dia", "2: 1 2 0; 0; 001; none 1 none 1; none none 2 2; 2 2 2 2"},
		{2, "P0 Step P1 Box", "2: 1 0 2; 0; 110; 1 2 1 2; 1 1 1 1; none none 1 1"},
		{2, "P0 Test P1 Dia", "2: 1 0; 0; 01; none none none 1; 1 1 1 1"},
		{2, "P0 Test P1 Box", "2: 1 0; 0; 11; 1 none 1 1; 1 1 1 1"},
		{2, "P0 Step P1 Step Plus More Dia", "2: 1 2 0; 0; 001; none 1 1 1; 2 2 2 2; 2 2 2 2"},
		{2, "P0 Step P1 Step Plus Over Box", "2: 1 0 2; 0; 111; 1 2 2 2; 1 1 1 1; none none none none"},
		{2, "P0 Step P1 Step Seq More Dia", "2: 1 2 4 0; 0; 0001; none 1 none 1; none none 2 2; 3 3 3 3; 3 3 3 3"},
		{2, "P0 Step P1 Step Seq Over Box", "2: 1 0 2 4; 0; 1111; 1 2 1 2; 1 1 1 1; 1 1 3 3; none none none none"},
		{2, "P0 Step Star P1 Dia", "2: 1 0; 0; 01; none 0 1 1; 1 1 1 1"},
		{2, "P0 Step Star P1 Box", "2: 1 0; 0; 01; none none 1 0; 1 1 1 1"},
	} {
		c.asks(t)
	}
}

func TestTheOrderInWhichStatesAreMet(t *testing.T) {
	for _, c := range []automaton{
		// Start's, as they stand; then state by state, not the first letter of all states ahead of the second one.
		{2, "P1 Step P0 Dia P0 Step P1 Dia Or", "2: 1 2 4 8 0; 0 1; 00001; none none 2 2; none 3 none 3; none 4 none 4; none none 4 4; 4 4 4 4"},
		// Letters rising: the one without P0 ahead of the one with it.
		{1, "P0 Step More Dia P0 Not Step Over Dia Or", "1: 1 2 4 8 0; 0 1; 00011; none 2; 3 none; 4 4; none none; 4 4"},
		{1, "P0 Step More Box P0 Not Step Over Box And", "1: 3 4 8 0; 0; 1101; 1 2; none none; 3 3; 3 3"},
		{1, "P0 Not Step More Box P0 Step Over Box And", "1: 3 4 8 0; 0; 1011; 1 2; 3 3; none none; 3 3"},
		// The sets of a list, as they stand, not by their numbers: by the letter 2 the set 2 is met behind the set 4.
		{2, "True Step P1 Not Step Seq P1 Step Plus Over Dia", "2: 1 4 2; 0; 001; 1 1 (2 1) (2 1); 2 2 none none; none none none none"},
		// The empty set is a state among others.
		{2, "P0 P1 Release P1 Step P0 Dia And", "2: 3 5 4 0; 0; 0001; none none 1 2; none none none 3; none 3 none 3; 3 3 3 3"},
	} {
		c.asks(t)
	}
}

func TestPropositionsThatAreNotInTheFormula(t *testing.T) {
	for _, s := range []string{"P0", "P1 Next", "P0 P2 Until", "P0 Step P1 Step Seq Star P0 Weak Dia", "More", "P0 Weak P1 Next Or P2 Weak And", "False True P1 Until Release"} {
		k := tokens(s)
		low := 0
		var asked api.Letter
		for _, tok := range k {
			if tok.Op == api.Prop {
				low = max(low, int(tok.P)+1)
				asked |= 1 << tok.P
			}
		}
		few := made(t, low, k)
		for n := low; n <= 8; n++ {
			a := made(t, n, k)
			if toldSets(a.States) != toldSets(few.States) || toldNumbers(a.Start) != toldNumbers(few.Start) || toldBools(a.Final) != toldBools(few.Final) {
				t.Errorf("%s, of %d: %s", s, n, toldNfa(a))
			}
			for state, row := range a.Next {
				if len(row) != 1<<n {
					t.Fatal(s, n, state, len(row))
				}
				for x, to := range row {
					if !slices.Equal(to, few.Next[state][api.Letter(x)&asked]) {
						t.Error(s, n, state, x, to)
					}
				}
			}
		}
	}
}

func TestNoStates(t *testing.T) {
	for _, s := range []string{"False", "False False Or", "P0 False And", "False P0 P1 Until And", "False P0 Next P1 Weak Or And"} {
		for n := 2; n <= 8; n++ {
			a := made(t, n, tokens(s))
			if a.Props != n || len(a.States)+len(a.Start)+len(a.Final)+len(a.Next) != 0 {
				t.Error(s, n, toldNfa(a))
			}
			for _, tr := range [][]api.Letter{nil, {0}, {1, 2, 3}} {
				if states, is := runs(t, a, tr); len(states) != 0 || is {
					t.Error(s, tr, states, is)
				}
			}
		}
	}
}

// P13.2

// small tells an automaton of two states and one proposition that Of did not make.
func small() api.Nfa {
	return api.Nfa{Props: 1, States: []uint64{7, 7}, Start: []int{1, 0, 1}, Final: []bool{false, true}, Next: [][][]int{{{1, 1, 0}, nil}, {{}, {1, 0, 1, 0, 1}}}}
}

// great tells an automaton of so many states and propositions: by each letter x from the state s to the state s + x, as long as there is one.
func great(states, props int) api.Nfa {
	a := api.Nfa{Props: props, States: make([]uint64, states), Final: make([]bool, states), Next: make([][][]int, states)}
	for s := range states {
		a.Start = append(a.Start, states-1-s)
		a.Final[s] = s%3 == 0
		a.States[s] = math.MaxUint64
		a.Next[s] = make([][]int, 1<<props)
		for x := range 1 << props {
			if s+x < states {
				a.Next[s][x] = []int{s + x}
			}
		}
	}
	return a
}

func TestCheckOfWhatMayBe(t *testing.T) {
	for _, a := range []api.Nfa{{}, {Props: 8}, {Props: 3, States: []uint64{}, Start: []int{}, Final: []bool{}, Next: [][][]int{}}, small(), great(1, 0), great(256, 0), great(255, 2), great(256, 8), great(3, 8)} {
		if err := nfa.Check(a); err != api.OK {
			t.Errorf("Check(%.80s) = %d", toldNfa(a), err)
		}
	}
	// States may be any, Start may be empty, and a state may have no way on.
	a := small()
	for _, states := range [][]uint64{{0, 0}, {math.MaxUint64, 0}, {5, 3}, {1 << 63, 1 << 63}} {
		a.States = states
		if err := nfa.Check(a); err != api.OK {
			t.Error(states, err)
		}
	}
	a.Start = nil
	a.Next[1][1] = nil
	if err := nfa.Check(a); err != api.OK {
		t.Error(err)
	}
}

func TestCheckOfWhatMayNotBe(t *testing.T) {
	changes := map[string]func(a *api.Nfa){
		"a state more":                 func(a *api.Nfa) { a.States = append(a.States, 1) },
		"a state less":                 func(a *api.Nfa) { a.States = a.States[:1] },
		"no states":                    func(a *api.Nfa) { a.States = nil },
		"one more in Final":            func(a *api.Nfa) { a.Final = append(a.Final, true) },
		"one less in Final":            func(a *api.Nfa) { a.Final = a.Final[:1] },
		"no Final":                     func(a *api.Nfa) { a.Final = nil },
		"one more in Next":             func(a *api.Nfa) { a.Next = append(a.Next, a.Next[0]) },
		"one less in Next":             func(a *api.Nfa) { a.Next = a.Next[:1] },
		"no Next":                      func(a *api.Nfa) { a.Next = nil },
		"no first row":                 func(a *api.Nfa) { a.Next[0] = nil },
		"no last row":                  func(a *api.Nfa) { a.Next[1] = nil },
		"a list more in the first row": func(a *api.Nfa) { a.Next[0] = append(a.Next[0], nil) },
		"a list more in the last row":  func(a *api.Nfa) { a.Next[1] = append(a.Next[1], nil) },
		"a list less in the first row": func(a *api.Nfa) { a.Next[0] = a.Next[0][:1] },
		"a list less in the last row":  func(a *api.Nfa) { a.Next[1] = a.Next[1][:1] },
		"two lists more":               func(a *api.Nfa) { a.Next[0] = append(a.Next[0], nil, nil) },
	}
	for _, n := range []int{-1, -2, -9, 0, 2, 3, 7, 8, 9, 10, 63, 64, 65, 1 << 32, 1<<32 + 1, math.MinInt, math.MaxInt} {
		changes["Props "+strconv.Itoa(n)] = func(a *api.Nfa) { a.Props = n }
	}
	for _, n := range []int{-1, -2, 2, 3, 255, 256, 1 << 32, -1 << 32, math.MinInt, math.MaxInt} {
		number := strconv.Itoa(n)
		changes["first in Start "+number] = func(a *api.Nfa) { a.Start[0] = n }
		changes["last in Start "+number] = func(a *api.Nfa) { a.Start[2] = n }
		changes["first in Next "+number] = func(a *api.Nfa) { a.Next[0][0][0] = n }
		changes["last in Next "+number] = func(a *api.Nfa) { a.Next[1][1][4] = n }
		changes["alone in Next "+number] = func(a *api.Nfa) { a.Next[0][1] = []int{n} }
	}
	for name, change := range changes {
		a := small()
		change(&a)
		if err := nfa.Check(a); err != api.ErrArg {
			t.Errorf("%s: Check tells %d", name, err)
		}
		for _, tr := range [][]api.Letter{nil, {0}, {1, 0}, {255}} {
			runsRefused(t, a, tr, api.ErrArg)
		}
		// Ahead of what is wrong with the trace.
		runsRefused(t, a, make([]api.Letter, 1025), api.ErrArg)
	}
	// No states, but a number all the same; or Props that may not be.
	for _, a := range []api.Nfa{{Start: []int{0}}, {Props: 8, Start: []int{0}}, {Props: -1}, {Props: 9}, {Props: math.MinInt}, {Final: []bool{true}}, {Next: [][][]int{nil}}, {Next: [][][]int{{nil}}}, {States: []uint64{0}}} {
		if err := nfa.Check(a); err != api.ErrArg {
			t.Error(toldNfa(a), err)
		}
		runsRefused(t, a, nil, api.ErrArg)
		runsRefused(t, a, make([]api.Letter, 2000), api.ErrArg)
	}
	for _, props := range []int{0, 1, 8} {
		for _, states := range []int{257, 258, 300} {
			a := great(states, props)
			if err := nfa.Check(a); err != api.ErrArg {
				t.Error(states, props, err)
			}
			runsRefused(t, a, nil, api.ErrArg)
		}
		// A number just behind the last state, and the last one itself.
		a := great(256, props)
		for _, numbers := range []*int{&a.Start[0], &a.Start[255], &a.Next[0][0][0], &a.Next[255][0][0]} {
			was := *numbers
			*numbers = 256
			if err := nfa.Check(a); err != api.ErrArg {
				t.Error(props, err)
			}
			*numbers = 255
			if err := nfa.Check(a); err != api.OK {
				t.Error(props, err)
			}
			*numbers = was
		}
	}
}

// P13.3

func TestTracesThatAreRefused(t *testing.T) {
	for n := range 9 {
		a := great(4, n)
		for _, long := range []int{1025, 1026, 5000} {
			runsRefused(t, a, make([]api.Letter, long), api.ErrLong)
			// Ahead of letters that are not of so many propositions.
			runsRefused(t, a, slices.Repeat([]api.Letter{255}, long), api.ErrLong)
		}
		runs(t, a, make([]api.Letter, 1024))
		runs(t, a, make([]api.Letter, 1023))
		for x := range 256 {
			for _, tr := range [][]api.Letter{{api.Letter(x)}, {0, api.Letter(x)}, {api.Letter(x), 0, 0}} {
				if letter.Trace(n, tr) == api.OK {
					runs(t, a, tr)
					continue
				}
				runsRefused(t, a, tr, api.ErrArg)
			}
		}
		// A letter that is refused behind all states are left.
		if n > 0 && n < 8 {
			top := api.Letter(1<<n - 1)
			runsRefused(t, a, []api.Letter{top, top, top, top, top, 1 << n}, api.ErrArg)
		}
	}
	// Of an automaton without states likewise.
	runsRefused(t, api.Nfa{}, trace("1"), api.ErrArg)
	runsRefused(t, api.Nfa{Props: 7}, trace("128"), api.ErrArg)
	runsRefused(t, api.Nfa{Props: 7}, make([]api.Letter, 1025), api.ErrLong)
	runs(t, api.Nfa{Props: 7}, trace("127"))
}

func TestRunIsRisingAndEachOnce(t *testing.T) {
	a := small()
	for s, must := range map[string]string{"": "0 1", "0": "0 1", "1": "0 1", "0 0": "0 1", "0 1": "0 1", "1 1 1": "0 1"} {
		if states, _ := runs(t, a, trace(s)); toldNumbers(states) != must {
			t.Errorf("by %s: %v, not %s", s, states, must)
		}
	}
	a.Start = []int{0}
	for s, must := range map[string]string{"": "0", "0": "0 1", "1": "", "0 1": "0 1", "1 0": "", "0 0 1": "0 1"} {
		if states, _ := runs(t, a, trace(s)); toldNumbers(states) != must {
			t.Errorf("by %s: %v, not %s", s, states, must)
		}
	}
	b := great(256, 8)
	all := make([]int, 256)
	for i := range all {
		all[i] = i
	}
	// By a letter x no way leads to the states below x.
	for _, c := range []struct{ trace, from string }{{"", "0"}, {"0", "0"}, {"0 0 0", "0"}, {"1", "1"}, {"1 1 1", "3"}, {"255", "255"}, {"128 127", "255"}, {"100 50 25", "175"}} {
		from, _ := strconv.Atoi(c.from)
		states, is := runs(t, b, trace(c.trace))
		if !slices.Equal(states, all[from:]) || !is {
			t.Error(c.trace, states, is)
		}
	}
	for _, s := range []string{"255 1", "128 128", "255 255 255", "1 255 0 0"} {
		if states, is := runs(t, b, trace(s)); len(states) != 0 || is {
			t.Error(s, states, is)
		}
	}
}

func TestAcceptsByOneFinalState(t *testing.T) {
	a := great(3, 1)
	for final := range 8 {
		for i := range a.Final {
			a.Final[i] = final>>i%2 == 1
		}
		for n := range 5 {
			// So many letters with P0: the states from n on.
			tr := slices.Repeat([]api.Letter{1}, n)
			if _, is := runs(t, a, tr); is != (final>>n != 0) {
				t.Error(final, n, is)
			}
		}
	}
	// Final of a state that is not reached does not count, Start's neither behind a letter.
	b := api.Nfa{States: make([]uint64, 2), Start: []int{0}, Final: []bool{true, false}, Next: [][][]int{{{1}}, {{1}}}}
	for n := range 4 {
		if _, is := runs(t, b, make([]api.Letter, n)); is != (n == 0) {
			t.Error(n, is)
		}
	}
}

// growNfa tells an automaton of at most so many states.
func growNfa(chance *rand.Rand, states, props int) api.Nfa {
	n := chance.Intn(states + 1)
	some := func(most int) []int {
		var l []int
		for range chance.Intn(most + 1) {
			if n > 0 {
				l = append(l, chance.Intn(n))
			}
		}
		return l
	}
	a := api.Nfa{Props: chance.Intn(props + 1), Start: some(4)}
	for range n {
		var row [][]int
		for range 1 << a.Props {
			row = append(row, some(3))
		}
		a.States, a.Final, a.Next = append(a.States, chance.Uint64()), append(a.Final, chance.Intn(2) == 0), append(a.Next, row)
	}
	return a
}

func TestGrownAutomata(t *testing.T) {
	accepted, ways := 0, 0
	for seed := range int64(1500) {
		chance := rand.New(rand.NewSource(seed))
		a := growNfa(chance, 12, 3)
		if err := nfa.Check(a); err != api.OK {
			t.Fatal(toldNfa(a), err)
		}
		for range 6 {
			states, is := runs(t, a, growTrace(chance, chance.Intn(9), 1<<a.Props))
			if is {
				accepted++
			}
			if len(states) > 1 {
				ways++
			}
		}
	}
	if accepted < 2000 || ways < 2000 {
		t.Error("the test reaches little:", accepted, ways)
	}
	// As long as may be.
	for seed := range int64(10) {
		chance := rand.New(rand.NewSource(seed))
		a := growNfa(chance, 30, 2)
		runs(t, a, growTrace(chance, 1024, 1<<a.Props))
	}
}

// P13.4

func TestShortTracesAsMeanSays(t *testing.T) {
	some := traces(5, 4)
	for _, s := range []string{
		"True", "False", "P0", "P1 Not", "More", "Over", "P0 Next", "P1 Weak", "P0 P1 And", "P0 P1 Or",
		"P0 P1 Until", "P0 P1 Release", "P0 Next P1 Weak And", "True P0 Until", "False P0 Release", "False True P0 Until Release", "True False P0 Release Until", "P0 P1 Until P1 P0 Release And Next",
		"P0 Step Star P1 Dia", "P0 Step Star P1 Box", "P0 Step P1 Step Seq Star Over Dia", "P0 Step P1 Step Seq Star More Box", "P0 Step P1 Step Plus Star P1 Not Next Dia", "True Step True Step Seq Star More False Weak And Dia",
		"P0 Test P1 Step Seq Star P0 Not Dia", "P0 Test P1 Step Seq Star P0 Not Box", "P0 Step Star P1 Step Star Seq Star P1 Not Dia", "P0 Step Star Star P1 Box", "P1 Next Test P0 Step Seq Star P0 Not Dia", "P1 Next Test P0 Step Seq Star P0 Not Box",
		"P0 Step Star P1 Dia Test True Step Seq Star P0 Dia", "P0 Step Star P1 Dia Test True Step Seq Star P0 Box", "P0 Step Star P1 Box Test True Step Seq P1 Step Plus Star P0 Box",
		"P0 Step Star P1 Test Seq P0 Step Seq Star P0 Step Star P1 Box Dia", "P0 Weak Test P1 Next Test Plus True Step Seq Star Over Box",
	} {
		k := tokens(s)
		a := made(t, 2, k)
		for _, tr := range some {
			is, err := nfa.Accepts(a, tr)
			if must := satisfied(t, k, tr); is != must || err != api.OK {
				t.Fatalf("%s, by %v: %t, %d, not %t", s, tr, is, err, must)
			}
		}
	}
}

func TestGrownFormulasAsMeanAndTheModelSay(t *testing.T) {
	refusals, tooMany, accepted, not, most := 0, 0, 0, 0, 0
	for seed := range int64(2500) {
		chance := rand.New(rand.NewSource(seed))
		k := grow(chance, 1+chance.Intn(30), false)
		if seed%10 == 0 {
			// Many parts, each of the one or the other.
			for range 3 + chance.Intn(8) {
				k = slices.Concat(k, grow(chance, 1+chance.Intn(6), false), grow(chance, 1+chance.Intn(6), false), tokens([]string{"Or And", "Or Next And"}[chance.Intn(2)]))
			}
		}
		if seed%10 == 5 {
			// Many letters ahead.
			k = append(k, tokens("Next*"+strconv.Itoa(50+chance.Intn(16)))...)
		}
		n := 3 + chance.Intn(2)
		a, err := sameAsModel(t, n, k)
		switch err {
		case api.ErrObligations:
			refusals++
			continue
		case api.ErrStates:
			tooMany++
			continue
		}
		if nfa.Check(a) != api.OK || !slices.IsSorted(a.Start) {
			t.Fatal(told(k), toldNfa(a))
		}
		most = max(most, len(a.States))
		for range 10 {
			tr := growTrace(chance, chance.Intn(7), 1<<n)
			_, is := runs(t, a, tr)
			if must, err := mean.At(k, tr, 0); err == api.OK && is != must {
				t.Fatalf("%s, by %v: %t", told(k), tr, is)
			}
			if is {
				accepted++
			} else {
				not++
			}
		}
	}
	if refusals < 30 || tooMany < 30 || accepted < 2000 || not < 2000 || most < 150 {
		t.Error("the test reaches little:", refusals, tooMany, accepted, not, most)
	}
}

func TestLongTracesAsMeanSays(t *testing.T) {
	taken := 0
	for seed := range int64(120) {
		chance := rand.New(rand.NewSource(900 + seed))
		k := grow(chance, 5+chance.Intn(15), false)
		a, err := of(t, 3, k)
		if err != api.OK {
			continue
		}
		taken++
		tr := growTrace(chance, 200+chance.Intn(200), []int{1, 2, 8}[seed%3])
		if is, err := nfa.Accepts(a, tr); is != satisfied(t, k, tr) || err != api.OK {
			t.Fatal(told(k), tr, is, err)
		}
	}
	if taken < 60 {
		t.Error("the test reaches little:", taken)
	}
}

func TestAllLettersOfEightPropositions(t *testing.T) {
	for _, s := range []string{
		"P0 P1 P2 P3 P4 P5 P6 P7 And*7 Next", "P0 P1 Not And Step P2 P3 Or Step Seq Star P4 P5 Until Dia", "P7 Step Star P6 Box P5 P4 Release And", "True P0 P7 Not And P3 Next And Until", "False P0 P1 Or P2 Or P3 Or P4 Weak Or Release",
	} {
		k := tokens(s)
		a, _ := sameAsModel(t, 8, k)
		chance := rand.New(rand.NewSource(5))
		for x := range 256 {
			for _, tr := range [][]api.Letter{{api.Letter(x)}, {0, api.Letter(x)}, {api.Letter(x), 255}, growTrace(chance, 5, 256)} {
				if _, is := runs(t, a, tr); is != satisfied(t, k, tr) {
					t.Fatal(s, tr, is)
				}
			}
		}
	}
}

// Obligations that grow above what a kernel formula may have

// grown tells how many tokens the longest obligation has that is met by some letters from Start on.
func grown(t *testing.T, k []api.Tok, letters ...api.Letter) int {
	t.Helper()
	p, err := prog.New(k)
	if err != api.OK {
		t.Fatal(told(k), err)
	}
	long := 0
	for _, x := range letters {
		if _, err := p.Step(p.Start(), x); err != api.OK {
			t.Fatal(told(k), err)
		}
	}
	for _, a := range p.Atoms() {
		long = max(long, len(a))
	}
	return long
}

func TestObligationsOfManyTokens(t *testing.T) {
	for _, c := range []struct{ behind, all string }{
		{"P1 Not Dia", "2: 1 0 2; 0; 111; 1 1 none 2; 1 1 1 1; 1 1 none 2"},
		{"P1 Dia", "2: 1 2 0; 0; 001; none 1 2 2; none 1 2 2; 2 2 2 2"},
		{"P1 Not Box", "2: 1 0 2; 0; 111; 1 2 none none; 1 1 1 1; 1 2 none none"},
		{"P1 Box", "2: 1 0 2; 0; 010; none none 1 2; 1 1 1 1; none none 1 2"},
	} {
		k := tokens("P0 P0 Or Step Star*60 " + c.behind)
		if grown(t, k, 1, 3) <= api.MaxKernel {
			t.Fatal("the test's obligations are short")
		}
		a := made(t, 2, k)
		if toldNfa(a) != c.all {
			t.Errorf("%s: %s, not %s", c.behind, toldNfa(a), c.all)
		}
		for _, tr := range traces(5, 4) {
			if is, err := nfa.Accepts(a, tr); is != satisfied(t, k, tr) || err != api.OK {
				t.Fatal(told(k), tr, is, err)
			}
		}
	}
	// A negation that has more tokens, and is satisfied at the end.
	k := slices.Concat(tokens("P0"), slices.Repeat(tokens("P1 And"), 1020), tokens("P3 Until Test P2 Box"))
	if grown(t, k, 3) <= api.MaxKernel {
		t.Fatal("the test's obligations are short")
	}
	a := made(t, 4, k)
	if toldSets(a.States) != "1 0 2" || toldNumbers(a.Start) != "0" || toldBools(a.Final) != "111" {
		t.Error(toldNfa(a))
	}
	for s, must := range map[string]bool{"": true, "3": true, "3 3 3": true, "3 0 8": true, "3 8": false, "8": false, "4": true, "12 8": true, "0": true, "3 3 8": false} {
		if is, err := nfa.Accepts(a, trace(s)); is != must || err != api.OK {
			t.Error(s, is, err)
		}
	}
}

func TestTheLongestFormulas(t *testing.T) {
	for _, k := range [][]api.Tok{
		tokens("P0*1024 And*1023"), append(tokens("P0"), slices.Repeat(tokens("P1 Or"), 1023)...),
		append(tokens("P0"), slices.Repeat(tokens("Test P1 Dia"), 682)...), append(tokens("P0"), slices.Repeat(tokens("Test P1 Box"), 682)...),
		slices.Concat(slices.Repeat(tokens("P0 Step"), 682), tokens("Plus*681 P1 Dia")), slices.Concat(slices.Repeat(tokens("P0 Test"), 682), tokens("Seq*681 P1 Box")),
		tokens("P0 Step Star*700 P1 Dia"),
	} {
		if kernel.Check(k) != api.OK {
			t.Fatal("the test's tokens are no kernel formula's:", len(k))
		}
		a := made(t, 2, k)
		for _, tr := range traces(3, 4) {
			is, err := nfa.Accepts(a, tr)
			if must, no := mean.At(k, tr, 0); err != api.OK || no == api.OK && is != must {
				t.Error(len(k), told(k[:4]), tr, is, err)
			}
		}
	}
}

// P1, and the rules that hold everywhere

// spoil writes over a list, and over its spare room.
func spoil[T any](l []T, with T) {
	l = l[:cap(l)]
	for i := range l {
		l[i] = with
	}
}

// lists tells all lists of numbers that an automaton has.
func lists(a api.Nfa) [][]int {
	all := [][]int{a.Start}
	for _, row := range a.Next {
		all = append(all, row...)
	}
	return all
}

func TestAnswersShareNoMemory(t *testing.T) {
	for _, s := range []string{"P0 Next P1 Weak Or", "P0 P1 Until", "P0 Step Star P1 Step Seq Star P0 Dia", "P0 P1 Release P0 Step P1 Next Box And", "P0 P1 Or P1 P0 Not Or And Next", "True", "False"} {
		k := tokens(s)
		a, must := made(t, 2, k), toldNfa(made(t, 2, k))
		if told(k) != s {
			t.Fatal(s, told(k))
		}
		b := made(t, 2, k)
		// No two lists of one answer share any, their spare room neither.
		all := lists(a)
		for i := range all {
			was := slices.Clone(all[i])
			spoil(all[i], 99)
			for j, l := range lists(b) {
				if j > i && !slices.Equal(all[j], l) {
					t.Fatal(s, i, j, all[j], l)
				}
			}
			copy(all[i], was)
		}
		for i, row := range a.Next {
			spoil(row, nil)
			for j := i + 1; j < len(a.Next); j++ {
				if len(a.Next[j]) != 4 || !slices.EqualFunc(a.Next[j], b.Next[j], slices.Equal[[]int]) {
					t.Fatal(s, i, j)
				}
			}
		}
		spoil(a.States, 99)
		spoil(a.Start, 99)
		spoil(a.Final, true)
		spoil(a.Next, nil)
		if told(k) != s || toldNfa(b) != must || toldNfa(made(t, 2, k)) != must {
			t.Fatal(s, "an answer shares memory")
		}
		// What was handed in may change behind the call.
		spoil(k, api.Tok{Op: 99, P: 99})
		if toldNfa(b) != must {
			t.Fatal(s, toldNfa(b))
		}
	}
}

func TestWhatRunTellsSharesNoMemory(t *testing.T) {
	a := great(8, 1)
	slices.Sort(a.Start)
	must := toldNfa(a)
	for _, s := range []string{"", "0", "1", "0 1 0"} {
		tr := trace(s)
		one, _ := nfa.Run(a, tr)
		other, _ := nfa.Run(a, tr)
		was := slices.Clone(other)
		spoil(one, 99)
		if !slices.Equal(other, was) || toldNfa(a) != must || !slices.Equal(tr, trace(s)) {
			t.Error(s, other, toldNfa(a))
		}
	}
}

func TestNoTokenIsChangedOrReadBehindTheEnd(t *testing.T) {
	room := tokens("P0 P1 Until P0 Next Or P0 Step Star P1 Over And Dia And P0 Not Test Star P1 P0 Or Box And")
	was := slices.Clone(room)
	for i := range room {
		for j := i; j <= len(room); j++ {
			// The spare room has tokens that would change what is told.
			a, err := of(t, 2, room[i:j])
			b, must := modelOf(2, slices.Clip(slices.Clone(was[i:j])))
			if err != must || toldNfa(a) != toldNfa(b) {
				t.Fatal(told(room[i:j]), err, must, toldNfa(a))
			}
			if !slices.Equal(room, was) {
				t.Fatal(i, j, told(room))
			}
		}
	}
}

// cut tells a list that has spare room behind it, with an item that may not be there.
func cut[T any](l []T, bad T) []T { return append(slices.Clip(l), bad)[:len(l)] }

func TestNoAutomatonIsChangedOrReadBehindTheEnd(t *testing.T) {
	a := great(5, 1)
	plain := toldNfa(a)
	a.States, a.Start, a.Final = cut(a.States, 99), cut(a.Start, 99), cut(a.Final, true)
	for s, row := range a.Next {
		for x := range row {
			row[x] = cut(row[x], 99)
		}
		a.Next[s] = cut(row, []int{99})
	}
	a.Next = cut(a.Next, nil)
	tr := trace("0 1 0 1 255")
	for n := range 5 {
		if nfa.Check(a) != api.OK {
			t.Fatal("Check")
		}
		states, _ := runs(t, a, tr[:n])
		if len(states) != 5-n/2 {
			t.Error(n, states)
		}
	}
	if toldNfa(a) != plain || !slices.Equal(tr, trace("0 1 0 1 255")) {
		t.Error(toldNfa(a), tr)
	}
	if a.States[:6][5] != 99 || a.Start[:6][5] != 99 || !a.Final[:6][5] || a.Next[:6][5] != nil || a.Next[0][:3][2][0] != 99 || a.Next[4][0][:2][1] != 99 {
		t.Error("spare room was written")
	}
}

func TestNilAndEmptyAreTheSame(t *testing.T) {
	for n := range 9 {
		refused(t, n, nil, api.ErrForm)
		refused(t, n, []api.Tok{}, api.ErrForm)
	}
	a := small()
	for _, tr := range [][]api.Letter{nil, {}} {
		if states, is := runs(t, a, tr); toldNumbers(states) != "0 1" || !is {
			t.Error(states, is)
		}
		for _, none := range []api.Nfa{{}, {States: []uint64{}, Start: []int{}, Final: []bool{}, Next: [][][]int{}}} {
			if states, is := runs(t, none, tr); len(states) != 0 || is {
				t.Error(states, is)
			}
		}
	}
}

func TestCallsAreCalm(t *testing.T) {
	chance := rand.New(rand.NewSource(91))
	kept := 0
	for range 20000 {
		k := make([]api.Tok, chance.Intn(9))
		for i := range k {
			k[i] = api.Tok{Op: api.Op(chance.Intn(25))}
			if chance.Intn(40) == 0 {
				k[i] = api.Tok{Op: api.Op(chance.Intn(256)), P: uint8(chance.Intn(256))}
			}
		}
		if _, err := sameAsModel(t, chance.Intn(4)-1, k); err == api.OK {
			kept++
		}
	}
	if kept < 200 {
		t.Error("just", kept, "are formulas")
	}
	for op := range 256 {
		for _, n := range []int{0, 1, 2, 64, 2048, 2049} {
			sameAsModel(t, 1, slices.Repeat([]api.Tok{{Op: api.Op(op)}}, n))
		}
	}
	// Automata of any numbers.
	allowed := 0
	for range 20000 {
		a := growNfa(chance, 3, 2)
		for range chance.Intn(3) {
			switch chance.Intn(6) {
			case 0:
				a.Props = chance.Intn(12) - 2
			case 1:
				a.Start = append(a.Start, chance.Intn(5)-1)
			case 2:
				a.Final = append(a.Final, true)[chance.Intn(2):]
			case 3:
				a.States = append(a.States, 1)[chance.Intn(2):]
			case 4:
				a.Next = append(a.Next, [][]int{{0}, {1}})[chance.Intn(2):]
			case 5:
				if len(a.Next) > 0 {
					a.Next[0] = append(a.Next[0], []int{chance.Intn(5) - 1})[chance.Intn(2):]
				}
			}
		}
		tr := growTrace(chance, chance.Intn(4), 5)
		if nfa.Check(a) == api.OK && letter.Trace(a.Props, tr) == api.OK {
			runs(t, a, tr)
			allowed++
			continue
		}
		runsRefused(t, a, tr, api.ErrArg)
	}
	if allowed < 1000 {
		t.Error("just", allowed, "may be")
	}
}

func TestAnswersHangOnArgumentsAlone(t *testing.T) {
	tell := func() string {
		var said strings.Builder
		chance := rand.New(rand.NewSource(7))
		for range 60 {
			k, tr := grow(chance, chance.Intn(20), false), growTrace(chance, chance.Intn(8), 8)
			for range 2 {
				a, err := nfa.Of(3, k)
				states, _ := nfa.Run(a, tr)
				is, _ := nfa.Accepts(a, tr)
				said.WriteString(toldNfa(a) + strconv.Itoa(int(err)) + toldNumbers(states) + strconv.FormatBool(is) + "\n")
			}
		}
		return said.String()
	}
	must := tell()
	var all sync.WaitGroup
	for range 8 {
		all.Go(func() {
			if got := tell(); got != must {
				t.Error("another answer")
			}
		})
	}
	all.Wait()
}

// One automaton may be run by several goroutines at once: nothing of it is written.
func TestOneAutomatonRunAtOnce(t *testing.T) {
	a := made(t, 3, tokens("P0 P1 Until P1 P2 Next Release And P0 Step P1 Step Seq Star P2 Dia Or"))
	var all sync.WaitGroup
	for seed := range int64(8) {
		all.Go(func() {
			chance := rand.New(rand.NewSource(seed))
			for range 50 {
				tr := growTrace(chance, chance.Intn(20), 8)
				states, err := nfa.Run(a, tr)
				if err != api.OK || !slices.Equal(states, modelRun(a, tr)) {
					t.Error(tr, states, err)
				}
			}
		})
	}
	all.Wait()
}
