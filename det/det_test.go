package det_test

import (
	"math"
	"math/rand"
	"slices"
	"strconv"
	"strings"
	"sync"
	"testing"

	"rejoinder/api"
	"rejoinder/det"
	"rejoinder/guard"
	"rejoinder/kernel"
	"rejoinder/mean"
	"rejoinder/prog"
	"rejoinder/sets"
)

// of asks States and Of, which refuse the same; what is refused has no other answers.
func of(t *testing.T, n int, k []api.Tok) ([][]uint64, api.Auto, api.Errno) {
	t.Helper()
	a, err := det.Of(n, k)
	lists, other := det.States(n, k)
	if err != other {
		t.Errorf("Of(%d, %.80s): %d, but States: %d", n, told(k), err, other)
	}
	if err != api.OK && (toldAuto(a) != toldAuto(api.Auto{}) || len(lists) > 0) {
		t.Errorf("Of(%d, %.80s): an answer beside %d: %.80s, %.80s", n, told(k), err, toldAuto(a), toldLists(lists))
	}
	return lists, a, err
}

// made asks of what may not be refused.
func made(t *testing.T, n int, k []api.Tok) ([][]uint64, api.Auto) {
	t.Helper()
	lists, a, err := of(t, n, k)
	if err != api.OK {
		t.Fatalf("Of(%d, %d tokens, %.80s): %d", n, len(k), told(k), err)
	}
	mayBe(t, n, k, lists, a)
	return lists, a
}

// mayBe asks what P15.3 says of all that is made.
func mayBe(t *testing.T, n int, k []api.Tok, lists [][]uint64, a api.Auto) {
	t.Helper()
	if err := guard.Check(a); err != api.OK || a.Props != n || len(lists) != len(a.Accept) {
		t.Fatalf("Of(%d, %.80s): Check tells %d; of %d propositions, %d lists, %d states", n, told(k), err, a.Props, len(lists), len(a.Accept))
	}
	for i, l := range lists {
		if !sets.Check(l) || slices.ContainsFunc(lists[:i], func(other []uint64) bool { return sets.Same(l, other) }) {
			t.Fatalf("States(%d, %.80s): %v is not least, or there twice", n, told(k), l)
		}
	}
	// Each is reached: state by state, by those that are reached.
	reached := []int{0}
	for i := 0; i < len(reached); i++ {
		where, err := guard.Table(n, a.Nodes, a.Guard[reached[i]])
		if err != api.OK {
			t.Fatal(told(k), err)
		}
		for _, s := range where {
			if !slices.Contains(reached, s) {
				reached = append(reached, s)
			}
		}
	}
	// And in just this order they are numbered.
	for i, s := range reached {
		if i != s {
			t.Fatalf("Of(%d, %.80s): the state %d is the next one, not %d", n, told(k), s, i)
		}
	}
	if len(reached) != len(lists) {
		t.Fatalf("Of(%d, %.80s): just %d states of %d are reached", n, told(k), len(reached), len(lists))
	}
}

// refused asks of what must be refused.
func refused(t *testing.T, n int, k []api.Tok, must api.Errno) {
	t.Helper()
	if _, _, err := of(t, n, k); err != must {
		t.Errorf("Of(%d, %d tokens, %.80s): %d, not %d", n, len(k), told(k), err, must)
	}
}

// sameAsModel asks States and Of, which must tell what the model says.
func sameAsModel(t *testing.T, n int, k []api.Tok) ([][]uint64, api.Auto, api.Errno) {
	t.Helper()
	lists, a, err := of(t, n, k)
	all, b, must := modelOf(n, k)
	if err != must || toldAuto(a) != toldAuto(b) || toldLists(lists) != toldLists(all) {
		t.Fatalf("Of(%d, %s) = %d, %.300s, %.300s\nnot %d, %.300s, %.300s", n, told(k), err, toldLists(lists), toldAuto(a), must, toldLists(all), toldAuto(b))
	}
	if err == api.OK {
		mayBe(t, n, k, lists, a)
	}
	return lists, a, err
}

// accepts tells whether an automaton accepts a trace.
func accepts(t *testing.T, a api.Auto, tr []api.Letter) bool {
	t.Helper()
	s := 0
	for _, x := range tr {
		next, reached := guard.Go(a.Nodes, a.Guard[s], x)
		if !reached {
			t.Fatalf("from the state %d no state is reached by %d: %.200s", s, x, toldAuto(a))
		}
		s = next
	}
	return a.Accept[s]
}

// satisfied tells whether a trace satisfies a formula at 0, the empty one at its end.
func satisfied(t *testing.T, k []api.Tok, tr []api.Letter) bool {
	t.Helper()
	is, err := mean.At(k, tr, 0)
	if err != api.OK {
		t.Fatalf("mean does not take %.80s: %d", told(k), err)
	}
	return is
}

// asMean asks of some traces whether the automaton accepts them as mean says.
func asMean(t *testing.T, k []api.Tok, a api.Auto, some [][]api.Letter) {
	t.Helper()
	for _, tr := range some {
		if is, must := accepts(t, a, tr), satisfied(t, k, tr); is != must {
			t.Fatalf("%.200s, by %v: %t, not %t", told(k), tr, is, must)
		}
	}
}

// automaton is what States and Of must tell of a formula.
type automaton struct {
	n                  int
	formula, lists, of string
}

func (c automaton) asks(t *testing.T) {
	t.Helper()
	lists, a := made(t, c.n, tokens(c.formula))
	if toldLists(lists) != c.lists {
		t.Errorf("States(%d, %s) = %s, not %s", c.n, c.formula, toldLists(lists), c.lists)
	}
	if toldAuto(a) != c.of {
		t.Errorf("Of(%d, %s) = %s, not %s", c.n, c.formula, toldAuto(a), c.of)
	}
	sameAsModel(t, c.n, tokens(c.formula))
}

// The chapter's examples, and the document's

func TestExamples(t *testing.T) {
	a, err := det.Of(1, tokens("P0"))
	if err != api.OK || !slices.Equal(a.Accept, []bool{false, false, true}) || !slices.Equal(a.Guard, []int{0, -2, -3}) || !slices.Equal(a.Nodes, []api.Node{{P: 0, Lo: -2, Hi: -3}}) {
		t.Error(a, err)
	}
	if lists, err := det.States(1, tokens("P0")); toldLists(lists) != "1; none; 0" || err != api.OK {
		t.Error(lists, err)
	}
	if a, err := det.Of(0, tokens("True")); toldAuto(a) != "0: 1; -1" || err != api.OK {
		t.Error(toldAuto(a), err)
	}
	if lists, err := det.States(2, tokens("P0 P1 Until")); toldLists(lists) != "1; none; 0" || err != api.OK {
		t.Error(lists, err)
	}
	refused(t, 1, tokens("P1"), api.ErrArg)
	refused(t, 9, tokens("P0"), api.ErrArg)
	refused(t, 1, tokens("P0 Finally"), api.ErrForm)
}

func TestExamplesOfTheWhole(t *testing.T) {
	// p U q: to do, never, done; by p, and in both cases by q.
	automaton{2, "P0 P1 Until", "1; none; 0", "2: 001; 2 -2 -3; 1 -2 -3; 1 -1 -3; 0 0 1"}.asks(t)
	_, until := made(t, 2, tokens("P0 P1 Until"))
	if _, star := made(t, 2, tokens("P0 Step Star P1 Dia")); toldAuto(star) != toldAuto(until) {
		t.Error(toldAuto(star))
	}
	// p with 63 X ahead has 65 obligations; with 62 there are 65 states.
	refused(t, 1, tokens("P0 Next*63"), api.ErrObligations)
	if lists, _ := made(t, 1, tokens("P0 Next*62")); len(lists) != 65 {
		t.Error(len(lists))
	}
}

// P15.1: what is refused

func TestHowManyPropositionsThereMayBe(t *testing.T) {
	beyond := []int{-1, -2, -8, 9, 10, 16, 63, 64, 65, 255, 256, 257, 264, math.MinInt, math.MaxInt, math.MinInt32, math.MaxInt32, 1 << 32, 1<<32 + 1, 1<<40 + 8}
	for _, n := range beyond {
		for _, s := range []string{"True", "False", "P0", "P7", "More"} {
			refused(t, n, tokens(s), api.ErrArg)
		}
		// It is told ahead of all else.
		refused(t, n, nil, api.ErrArg)
		refused(t, n, tokens("P0 Finally"), api.ErrArg)
		refused(t, n, tokens("P0 Next*2048"), api.ErrArg)
		refused(t, n, many(65, "And"), api.ErrArg)
		refused(t, n, pairs(11, ""), api.ErrArg)
		refused(t, n, tokens("P0 Next*63"), api.ErrArg)
		refused(t, n, slices.Concat(soon(8, "P0"), tokens("Next")), api.ErrArg)
		refused(t, n, soon(8, "P0 P2 And"), api.ErrArg)
	}
	for n := range 9 {
		for _, s := range []string{"True", "False", "More", "Over", "More Next", "True Step Star Over Dia"} {
			if _, a, err := sameAsModel(t, n, tokens(s)); a.Props != n || err != api.OK {
				t.Error(n, s, a.Props, err)
			}
		}
	}
}

func TestAPropositionFromNOn(t *testing.T) {
	for n := range 9 {
		for p := range 8 {
			prop := []api.Tok{{Op: api.Prop, P: uint8(p)}}
			for _, k := range [][]api.Tok{
				prop, slices.Concat(prop, tokens("Not")), slices.Concat(prop, tokens("Next*3")), slices.Concat(tokens("True"), prop, tokens("Or")), slices.Concat(tokens("False"), prop, tokens("And Next")),
				// In a path; even in one that says nothing.
				slices.Concat(prop, tokens("Step Star False Dia")), slices.Concat(prop, tokens("Test True Box")), slices.Concat(tokens("True Step"), prop, tokens("Not Step Seq More Box")), slices.Concat(tokens("False"), prop, tokens("And Step True Dia")),
			} {
				if p >= n {
					refused(t, n, k, api.ErrArg)
					continue
				}
				if _, a, err := sameAsModel(t, n, k); a.Props != n || err != api.OK {
					t.Error(n, told(k), toldAuto(a), err)
				}
			}
		}
	}
	// The greatest one counts, wherever it stands.
	for _, s := range []string{"P3 P0 Until", "P0 P3 Until", "P0 P1 And P3 Or P2 And", "P3 Step Star P0 Dia", "P0 Step P3 Not Test Seq P1 Box"} {
		refused(t, 3, tokens(s), api.ErrArg)
		made(t, 4, tokens(s))
	}
}

// noKernel tells tokens that are no kernel formula's.
func noKernel() [][]api.Tok {
	var all [][]api.Tok
	for _, s := range []string{
		"", "P0 P1", "P0 And", "And", "Next", "Not", "P0 Until", "P0 P1 Dia", "P0 Step", "P0 Step Star", "P0 Test", "P0 Step P1 Test Seq", "P0 Step P1", "P0 Step Next", "Star", "Box",
		"True Not", "P0 Not Not", "P0 P1 And Not", "P0 Next Not", "Last", "P0 Finally", "P0 Globally", "P0 P1 Imp", "P0 P1 Iff", "P0 Finally Test P1 Dia", "P0 P1 Imp Step P1 Dia",
		"More Step P0 Dia", "P0 Next Step P1 Dia", "P0 P1 Until Step P1 Dia", "P7*2048",
	} {
		all = append(all, tokens(s))
	}
	for _, tok := range []api.Tok{{Op: api.Prop, P: 8}, {Op: api.Prop, P: 63}, {Op: api.Prop, P: 64}, {Op: api.Prop, P: 255}, {Op: api.True, P: 1}, {Op: api.And, P: 1}, {Op: 24}, {Op: 32}, {Op: 255, P: 255}} {
		all = append(all, []api.Tok{tok}, []api.Tok{{Op: api.Prop}, tok}, []api.Tok{{Op: api.Prop}, {Op: api.Prop, P: 1}, tok})
	}
	// Formulas that New would refuse beside their form.
	return append(all, slices.Concat(many(65, "And"), tokens("Finally")), slices.Concat(pairs(11, ""), tokens("Last And")))
}

func TestWhatIsNoKernelFormulaIsRefused(t *testing.T) {
	for _, k := range noKernel() {
		if kernel.Check(k) != api.ErrForm {
			t.Error("the test's tokens are a kernel formula's:", told(k))
		}
		// Ahead of a proposition from n on.
		for n := range 9 {
			refused(t, n, k, api.ErrForm)
		}
	}
	// Too many tokens are told ahead of their form, and of their propositions.
	for _, k := range [][]api.Tok{tokens("P0 Next*2048"), tokens("P7*2049"), tokens("And*3000"), tokens("True Next*2048"), make([]api.Tok, 1000000), append(tokens("P0 Next*2048"), api.Tok{Op: 99})} {
		for n := range 9 {
			refused(t, n, k, api.ErrLong)
		}
	}
	// Just as many as may be.
	made(t, 1, tokens("True Weak P0*1023 And*1023"))
	refused(t, 0, tokens("True Weak P0*1023 And*1023"), api.ErrArg)
}

func TestAFormulaWhoseNewIsRefused(t *testing.T) {
	for _, k := range [][]api.Tok{many(65, "And"), many(65, "Or"), many(100, "And"), pairs(11, ""), append(many(64, "Or"), tokens("P0 False And Or")...), append(pairs(10, ""), tokens("True Or")...)} {
		if _, err := prog.New(k); err != api.ErrObligations || kernel.Check(k) != api.OK {
			t.Fatal("the test's formula is not refused:", told(k), err)
		}
		refused(t, 8, k, api.ErrObligations)
		// A proposition from n on is told ahead of it.
		for n := range 8 {
			refused(t, n, k, api.ErrArg)
		}
	}
	// As many obligations in Start as may be.
	made(t, 8, many(64, "And"))
	made(t, 8, many(64, "Or"))
}

func TestAFormulaThatIsRefusedByALaterStep(t *testing.T) {
	all := exactly(255)
	for _, k := range [][]api.Tok{
		tokens("P0 Next*63"), tokens("P0 Weak*63"), tokens("P0 Next*2047"), append(tokens("P0"), slices.Repeat(tokens("P1 Until"), 65)...),
		// Too many sets.
		append(pairs(11, ""), tokens("Next")...), append(pairs(11, ""), tokens("Next*5")...), pairs(11, "Next"), append(pairs(11, "Next"), tokens("Next*3")...),
		// By a few letters alone, by the last one alone; behind some others.
		behind("P7", pairs(11, ""), "Dia"), behind(all, pairs(11, ""), "Dia"), behind(all, pairs(11, ""), "Box"), append(behind(all, pairs(11, ""), "Dia"), tokens("Next*9")...),
	} {
		if _, err := prog.New(k); err != api.OK {
			t.Fatal("the test's formula is refused at once:", told(k), err)
		}
		refused(t, 8, k, api.ErrObligations)
		sameAsModel(t, 8, k)
		refused(t, 0, k, api.ErrArg)
	}
	refused(t, 0, tokens("More Weak Next*62"), api.ErrObligations)
	// As many obligations as may be.
	if lists, _ := made(t, 0, tokens("True Next*63")); len(lists) != 65 {
		t.Error(len(lists))
	}
	// What no letter leads to is refused by nobody.
	made(t, 8, behind("False", pairs(11, ""), "Dia"))
	made(t, 8, behind("False", pairs(11, ""), "Box"))
}

func TestJustAsManyStatesAsMayBe(t *testing.T) {
	// What is still to come of so many propositions: 2^n states, all of them reached from the first one by one letter.
	for n := 1; n <= 8; n++ {
		lists, a, err := sameAsModel(t, 8, soon(n, "P0"))
		if len(lists) != 1<<n || len(a.Nodes) != n<<(n-1) || err != api.OK {
			t.Error(n, len(lists), len(a.Nodes), err)
		}
	}
	// One more state ahead of these.
	for _, s := range []string{"More And", "Next", "Weak", "Next*5", "Over Or"} {
		k := slices.Concat(soon(8, "P0"), tokens(s))
		refused(t, 8, k, api.ErrStates)
		sameAsModel(t, 8, k)
	}
	// By one proposition: was it so many letters ahead? 2^n + 1 states.
	for n := 1; n <= 7; n++ {
		k := tokens("True P0 P0 Next*" + strconv.Itoa(n) + " And Until")
		if lists, _, _ := sameAsModel(t, 1, k); len(lists) != 1<<n+1 {
			t.Error(n, len(lists))
		}
	}
	refused(t, 1, tokens("True P0 P0 Next*8 And Until"), api.ErrStates)
	sameAsModel(t, 1, tokens("True P0 P0 Next*8 And Until"))
}

// rounds tells that the traces' length is a multiple of each of some numbers.
func rounds(numbers ...int) []api.Tok {
	k := tokens("True")
	for _, n := range numbers {
		k = slices.Concat(k, slices.Repeat(tokens("True Step"), n), tokens("Seq*" + strconv.Itoa(n))[1:], tokens("Star Over Dia And"))
	}
	return k
}

func TestStatesOneByOne(t *testing.T) {
	// Without a proposition each state leads to one other: the last one is met from the one ahead of it alone.
	for _, c := range []struct {
		numbers []int
		behind  string
		states  int
	}{
		{[]int{2}, "", 2}, {[]int{40}, "", 40}, {[]int{3, 5}, "", 15}, {[]int{15, 16}, "", 240},
		{[]int{15, 17}, "", 255}, {[]int{15, 17}, "More And", 256}, {[]int{15, 17}, "Next", 257}, {[]int{15, 17}, "Next*2", 258},
		{[]int{3, 5, 17}, "", 255}, {[]int{3, 5, 17}, "More And", 256}, {[]int{3, 5, 17}, "Weak", 257}, {[]int{4, 5, 13}, "", 260}, {[]int{16, 17}, "", 272}, {[]int{3, 7, 13}, "", 273},
	} {
		k := slices.Concat(rounds(c.numbers...), tokens(c.behind))
		lists, a, err := sameAsModel(t, 0, k)
		if c.states > 256 {
			if err != api.ErrStates {
				t.Error(c.numbers, c.behind, err)
			}
			continue
		}
		if len(lists) != c.states || len(a.Nodes) != 0 || err != api.OK {
			t.Fatal(c.numbers, c.behind, len(lists), len(a.Nodes), err)
		}
		for long := range 600 {
			must := !slices.ContainsFunc(c.numbers, func(n int) bool { return long%n != 0 })
			if c.behind != "" {
				must = must && long > 0
			}
			if is := accepts(t, a, make([]api.Letter, long)); is != must {
				t.Fatal(c.numbers, c.behind, long, is)
			}
		}
	}
}

// alike tells a formula for soon: three propositions hold, or none of them. Of seven such there are 128 states, of which the first 88 have more nodes than may be.
const alike = "P0 P3 And P5 And P0 Not P3 Not And P5 Not And Or"

// full tells a formula of 128 states and 4,062 nodes.
func full() []api.Tok { return soon(7, "P0 P2 And P3 P6 And Or") }

// steady tells that P0 holds at so many positions: a state and a node for each, beside those that tell whether it did.
func steady(n int) []api.Tok {
	k := tokens("P0")
	for range n - 1 {
		k = slices.Concat(tokens("P0"), k, tokens("Next And"))
	}
	return k
}

func TestJustAsManyNodesAsMayBe(t *testing.T) {
	t.Parallel()
	// One by one.
	for n := 32; n <= 35; n++ {
		k := parted(full(), steady(n))
		lists, a, err := sameAsModel(t, 8, k)
		switch {
		case n <= 33 && (err != api.OK || len(a.Nodes) != 4063+n || len(lists) != 130+n):
			t.Error(n, err, len(a.Nodes), len(lists))
		case n > 33 && err != api.ErrGuards:
			t.Error(n, err)
		}
	}
	// As many states as may be, and as many nodes; the last one comes with the last state.
	few, more, other := soon(7, "P0 P6 Not And P4 And"), soon(7, "P0 P4 Not Or P2 And"), soon(7, "P0 P2 Not And")
	for _, c := range []struct {
		with, without []api.Tok
		must          api.Errno
	}{{few, other, api.OK}, {other, few, api.OK}, {more, other, api.ErrGuards}, {other, more, api.ErrGuards}} {
		k := parted(c.with, c.without)
		lists, a, err := sameAsModel(t, 8, k)
		if err != c.must || err == api.OK && (len(lists) != 256 || len(a.Nodes) != 4096) {
			t.Error(err, len(lists), len(a.Nodes))
		}
		if _, _, at, err := modelPoint(8, k); err != api.OK && at != 255 {
			t.Error("the test's formula is refused from the state", at)
		}
	}
	for _, k := range [][]api.Tok{soon(7, alike), soon(8, "P0 P2 And"), soon(8, alike)} {
		if _, _, err := sameAsModel(t, 8, k); err != api.ErrGuards {
			t.Error(told(k), err)
		}
	}
}

func TestWhicheverRefusalIsMetFirst(t *testing.T) {
	t.Parallel()
	states, manySets, guards := soon(8, "P0"), pairs(11, ""), soon(7, alike)
	later := func(k []api.Tok, n int) []api.Tok { return slices.Concat(k, slices.Repeat(tokens("Next"), n)) }
	and := func(a, b []api.Tok) []api.Tok { return slices.Concat(a, b, tokens("And")) }
	first := and(states, tokens("More")) // its 257th state is met from the state 0, by the last letter
	for i, c := range []struct {
		k    []api.Tok
		must api.Errno
	}{
		// Of one state letter by letter; of one letter the Step ahead of the state.
		{and(first, behind(exactly(254), manySets, "Box")), api.ErrObligations},
		{and(first, behind(exactly(255), manySets, "Box")), api.ErrObligations},
		{and(first, later(behind(exactly(0), manySets, "Box"), 1)), api.ErrStates},
		{and(first, later(behind("True", manySets, "Box"), 1)), api.ErrStates},
		// There are three states already: the 257th is met by the letter 253.
		{later(and(states, behind(exactly(0), manySets, "Box")), 2), api.ErrObligations},
		{later(and(states, behind(exactly(252), manySets, "Box")), 2), api.ErrObligations},
		{later(and(states, behind(exactly(253), manySets, "Box")), 2), api.ErrObligations},
		{later(and(states, behind(exactly(254), manySets, "Box")), 2), api.ErrStates},
		{later(and(states, behind(exactly(255), manySets, "Box")), 2), api.ErrStates},
		// State by state.
		{parted(states, manySets), api.ErrObligations},
		{parted(manySets, states), api.ErrObligations},
		{parted(states, later(manySets, 1)), api.ErrObligations},
		{parted(states, later(manySets, 2)), api.ErrStates},
		{parted(later(manySets, 2), states), api.ErrStates},
		{parted(later(states, 2), later(manySets, 2)), api.ErrObligations},
		{parted(later(manySets, 2), later(states, 2)), api.ErrObligations},
		// The guards of a few states ahead of all else, or behind it.
		{parted(guards, later(manySets, 2)), api.ErrObligations},
		{parted(guards, later(manySets, 9)), api.ErrGuards},
		{parted(later(manySets, 9), guards), api.ErrGuards},
		{parted(guards, later(states, 1)), api.ErrStates},
		{parted(guards, later(states, 9)), api.ErrGuards},
		{parted(later(states, 9), guards), api.ErrGuards},
		// From the one state, behind all others, there are too many nodes; or too many states, which are told ahead of its nodes.
		{parted(full(), later(soon(6, "P0"), 9)), api.ErrGuards},
		{parted(full(), later(states, 9)), api.ErrStates},
		// All Steps of a state are made ahead of its nodes.
		{parted(full(), later(and(soon(6, "P0"), behind(exactly(255), manySets, "Box")), 9)), api.ErrObligations},
	} {
		if _, err := prog.New(c.k); err != api.OK {
			t.Fatal("the test's formula is refused at once:", i, told(c.k), err)
		}
		if _, _, err := sameAsModel(t, 8, c.k); err != c.must {
			t.Errorf("the %dth formula: %d, not %d", i, err, c.must)
		}
	}
}

// P15.2

func TestEachKindOfFormula(t *testing.T) {
	for _, c := range []automaton{
		{0, "True", "0", "0: 1; -1"},
		{8, "True", "0", "8: 1; -1"},
		{0, "False", "none", "0: 0; -1"},
		{8, "False", "none", "8: 0; -1"},
		{1, "P0", "1; none; 0", "1: 001; 0 -2 -3; 0 -2 -3"},
		{2, "P0", "1; none; 0", "2: 001; 0 -2 -3; 0 -2 -3"},
		{2, "P1", "1; none; 0", "2: 001; 0 -2 -3; 1 -2 -3"},
		{1, "P0 Not", "1; 0; none", "1: 110; 0 -2 -3; 0 -2 -3"},
		{0, "More", "1; 0", "0: 01; -2 -2"},
		{1, "More", "1; 0", "1: 01; -2 -2"},
		{0, "Over", "1; none", "0: 10; -2 -2"},
		{0, "More Next", "1; 2; 0", "0: 001; -2 -3 -3"},
		{0, "True Next Next", "1; 6; 2; 0", "0: 0001; -2 -3 -4 -4"},
		{1, "P0 Next", "1; 6; none; 0", "1: 0001; -2 0 -3 -4; 0 -3 -4"},
		{0, "Over Weak", "1; 2; none", "0: 110; -2 -3 -3"},
		{1, "P0 Weak", "1; 2 4; none; 0", "1: 1101; -2 0 -3 -4; 0 -3 -4"},
		{0, "False Weak More And", "3; 4; none", "0: 010; -2 -3 -3"},
		{1, "P0 False And", "none", "1: 0; -1"},
		{1, "P0 True Or", "0", "1: 1; -1"},
		{2, "P0 P1 And", "3; none; 0", "2: 001; 1 -2 -3; 1 -2 -3; 0 -2 0"},
		{2, "P0 P1 Or", "1 2; none; 0", "2: 001; 1 -2 -3; 1 -2 -3; 0 0 -3"},
		{2, "P0 P1 Not And P0 Not P1 And Or", "3 12; none; 0", "2: 001; 2 -2 -3; 1 -2 -3; 1 -3 -2; 0 0 1"},
		{3, "P0 P1 P2 Or And", "3 5; none; 0", "3: 001; 2 -2 -3; 2 -2 -3; 1 0 -3; 0 -2 1"},
		{2, "P0 P1 Release", "1; none; 0", "2: 101; 2 -2 -3; 1 -2 -1; 1 -2 -3; 0 0 1"},
		{1, "True P0 Until", "1; 0", "1: 01; 0 -2; 0 -1 -2"},
		{1, "False P0 Release", "1; none", "1: 10; 0 -2; 0 -2 -1"},
		{1, "False True P0 Until Release", "1; 3", "1: 10; 0 0; 0 -2 -1"},
	} {
		c.asks(t)
	}
}

func TestEachKindOfPath(t *testing.T) {
	for _, c := range []automaton{
		{2, "P0 Step P1 Dia", "1; none; 2; 0", "2: 0001; 0 -2 1 -4; 0 -2 -3; 1 -2 -4"},
		{2, "P0 Step P1 Box", "1; 0; 2; none", "2: 1100; 0 -2 1 -4; 0 -2 -3; 1 -4 -2"},
		{2, "P0 Test P1 Dia", "1; none; 0", "2: 001; 1 -2 -3; 1 -2 -3; 0 -2 0"},
		{2, "P0 Test P1 Box", "1; 0; none", "2: 110; 1 -2 -3; 1 -3 -2; 0 -2 0"},
		{2, "P0 Step P1 Step Plus More Dia", "1; none; 2; 0", "2: 0001; 1 -2 -4 -4; 1 -2 -3; 0 0 -3"},
		{2, "P0 Step P1 Step Plus Over Box", "1; 0; 2; none", "2: 1110; 1 -2 -4 -4; 1 -2 -3; 0 0 -3"},
		{2, "P0 Step P1 Step Seq More Dia", "1; none; 2; 4; 0", "2: 00001; 0 -2 1 -5 -5; 0 -2 -3; 1 -2 -4"},
		{2, "P0 Step P1 Step Seq Over Box", "1; 0; 2; 4; none", "2: 11110; 0 -2 1 -5 -5; 0 -2 -3; 1 -2 -4"},
		{2, "P0 Step Star P1 Box", "1; none; 0", "2: 001; 2 -2 -3; 1 -2 -3; 1 -2 -1; 0 0 1"},
		{0, "True Step True Step Seq Star More False Weak And Dia", "1; 2 4", "0: 01; -2 -1"},
	} {
		c.asks(t)
	}
}

func TestTheOrderInWhichStatesAreMet(t *testing.T) {
	for _, c := range []automaton{
		// Letters rising: the one without P0 ahead of the one with it, the one with P0 alone ahead of the one with P1 alone.
		{1, "P0 Step More Dia P0 Not Step Over Dia Or", "1 2; 4; 8; none; 0", "1: 01001; 0 -4 -5 -4 -5; 0 -2 -3"},
		{1, "P0 Step More Box P0 Not Step Over Box And", "3; 4; 8; none; 0", "1: 11001; 0 -4 -5 -4 -5; 0 -2 -3"},
		{1, "P0 Not Step More Box P0 Step Over Box And", "3; 4; 8; 0; none", "1: 10110; 0 -4 -5 -4 -5; 0 -2 -3"},
		{2, "P1 Step P0 Dia P0 Step P1 Dia Or", "1 2; none; 4; 8; 4 8; 0", "2: 000001; 2 -2 3 4 5 -6; 1 -2 -4; 1 -3 -5; 0 0 1; 1 -2 -6; 0 -2 -6; 0 3 -6"},
		// State by state, not the first letter of all states ahead of the second one; one that is there is not met again.
		{2, "P0 P1 Next Until", "1; 6; 1 6; none; 0", "2: 00001; 0 1 4 -4 -5; 0 -2 -3; 1 -4 -5; 1 -2 -5; 1 -3 -5; 0 2 3"},
		{2, "P0 P1 Release P1 Step P0 Dia And", "3; none; 5; 4; 0", "2: 00001; 2 -2 4 5 -5; 1 -2 -3; 1 -2 -4; 0 0 1; 1 -2 -5; 0 -2 3; 0 -2 -5"},
		{2, "P0 Step P1 Step Seq Star P0 Next Dia", "1; 6; 6 8; none; 0", "2: 00001; 0 1 3 -4 -5; 0 -2 -3; 0 -4 -5; 1 -4 -1; 0 2 -5"},
	} {
		c.asks(t)
	}
}

func TestWhatIsMade(t *testing.T) {
	for _, s := range []string{"P0 P1 Until P2 Next And", "P0 Weak P1 Next Or P2 Weak And", "P0 Step P1 Step Seq Star P2 Dia P0 P2 Release Or", "P0 Next Test P1 Step Seq Star P2 Not Box", "False True P0 P1 And Until Release P2 Or"} {
		k := tokens(s)
		lists, a := made(t, 3, k)
		p, err := prog.New(k)
		if err != api.OK || !sets.Same(lists[0], p.Start()) {
			t.Fatal(s, err, lists[0])
		}
		st, _ := guard.New(3)
		for state, l := range lists {
			var where []int
			for x := range 8 {
				left, _ := p.Step(l, api.Letter(x))
				where = append(where, slices.IndexFunc(lists, func(other []uint64) bool { return sets.Same(left, other) }))
			}
			if ref, err := st.Add(where); ref != a.Guard[state] || err != api.OK {
				t.Error(s, state, ref, a.Guard[state], err)
			}
			if a.Accept[state] != p.Final(l) {
				t.Error(s, state, a.Accept[state])
			}
		}
		if !slices.Equal(a.Nodes, st.Nodes()) {
			t.Error(s, a.Nodes, st.Nodes())
		}
	}
}

// P15.3

func TestPropositionsThatAreNotInTheFormula(t *testing.T) {
	for _, s := range []string{"P0", "P1 Next", "P0 P2 Until", "P0 Step P1 Step Seq Star P0 Weak Dia", "More", "True", "P0 Weak P1 Next Or P2 Weak And", "False True P1 Until Release", "P5 P2 Release", "P4 Step P1 Step Plus Star P4 Dia"} {
		k := tokens(s)
		low := 0
		var asked api.Letter
		for _, tok := range k {
			if tok.Op == api.Prop {
				low = max(low, int(tok.P)+1)
				asked |= 1 << tok.P
			}
		}
		few, a := made(t, low, k)
		for n := low; n <= 8; n++ {
			lists, b, _ := sameAsModel(t, n, k)
			a.Props = n
			if toldLists(lists) != toldLists(few) || toldAuto(b) != toldAuto(a) {
				t.Errorf("%s, of %d: %s", s, n, toldAuto(b))
			}
			for _, x := range b.Nodes {
				if asked>>x.P%2 == 0 {
					t.Error(s, n, x)
				}
			}
			for state := range lists {
				where, _ := guard.Table(n, b.Nodes, b.Guard[state])
				for x, to := range where {
					if to != where[api.Letter(x)&asked] {
						t.Error(s, n, state, x, to)
					}
				}
			}
		}
	}
}

func TestShortTracesAsMeanSays(t *testing.T) {
	some := traces(5, 4)
	for _, s := range []string{
		"True", "False", "P0", "P1 Not", "More", "Over", "P0 Next", "P1 Weak", "P0 P1 And", "P0 P1 Or",
		"P0 P1 Until", "P0 P1 Release", "P0 Next P1 Weak And", "True P0 Until", "False P0 Release", "False True P0 Until Release", "True False P0 Release Until", "P0 P1 Until P1 P0 Release And Next",
		"P0 Step Star P1 Dia", "P0 Step Star P1 Box", "P0 Step P1 Step Seq Star Over Dia", "P0 Step P1 Step Seq Star More Box", "P0 Step P1 Step Plus Star P1 Not Next Dia", "True Step True Step Seq Star More False Weak And Dia",
		"P0 Test P1 Step Seq Star P0 Not Dia", "P0 Test P1 Step Seq Star P0 Not Box", "P0 Step Star P1 Step Star Seq Star P1 Not Dia", "P0 Step Star Star P1 Box", "P1 Next Test P0 Step Seq Star P0 Not Dia", "P1 Next Test P0 Step Seq Star P0 Not Box",
		"P0 Step Star P1 Dia Test True Step Seq Star P0 Dia", "P0 Step Star P1 Dia Test True Step Seq Star P0 Box", "P0 Step Star P1 Box Test True Step Seq P1 Step Plus Star P0 Box",
		"P0 Step Star P1 Test Seq P0 Step Seq Star P0 Step Star P1 Box Dia", "P0 Weak Test P1 Next Test Plus True Step Seq Star Over Box",
	} {
		k := tokens(s)
		_, a, _ := sameAsModel(t, 2, k)
		asMean(t, k, a, some)
	}
}

// left tells what is to do behind a trace's letters.
func left(t *testing.T, k []api.Tok, tr []api.Letter) (*prog.Prog, []uint64) {
	t.Helper()
	p, err := prog.New(k)
	l := p.Start()
	for _, x := range tr {
		if err != api.OK {
			t.Fatal(told(k), err)
		}
		l, err = p.Step(l, x)
	}
	return p, l
}

func TestGrownFormulasAsMeanAndTheModelSay(t *testing.T) {
	t.Parallel()
	refusals, tooMany, accepted, not, most := 0, 0, 0, 0, 0
	for seed := range int64(2500) {
		chance := rand.New(rand.NewSource(seed))
		k := grow(chance, 1+chance.Intn(30), false)
		if seed%10 == 0 {
			// Many parts, each of the one or the other.
			for range 3 + chance.Intn(6) {
				k = slices.Concat(k, grow(chance, 1+chance.Intn(6), false), grow(chance, 1+chance.Intn(6), false), tokens([]string{"Or And", "Or Next And"}[chance.Intn(2)]))
			}
		}
		switch seed % 10 {
		case 5:
			// Many letters ahead.
			k = append(k, tokens("Next*"+strconv.Itoa(50+chance.Intn(16)))...)
		case 7:
			// What was some letters ahead counts.
			k = slices.Concat(k, tokens("True P1"), grow(chance, 1+chance.Intn(4), false), tokens("Next*"+strconv.Itoa(3+chance.Intn(6))+" And Until And"))
		}
		n := 3 + chance.Intn(2)
		lists, a, err := sameAsModel(t, n, k)
		switch err {
		case api.ErrObligations:
			refusals++
			continue
		case api.ErrStates:
			tooMany++
			continue
		}
		most = max(most, len(lists))
		for range 10 {
			tr := growTrace(chance, chance.Intn(7), 1<<n)
			is := accepts(t, a, tr)
			if must, err := mean.At(k, tr, 0); err == api.OK && is != must {
				t.Fatalf("%s, by %v: %t", told(k), tr, is)
			}
			if p, l := left(t, k, tr); is != p.Final(l) {
				t.Fatalf("%s, by %v: %t, and %v is left", told(k), tr, is, l)
			}
			if is {
				accepted++
			} else {
				not++
			}
		}
	}
	if refusals < 30 || tooMany < 20 || accepted < 2000 || not < 2000 || most < 100 {
		t.Error("the test reaches little:", refusals, tooMany, accepted, not, most)
	}
}

func TestLongTracesAsMeanSays(t *testing.T) {
	taken := 0
	for seed := range int64(120) {
		chance := rand.New(rand.NewSource(900 + seed))
		k := grow(chance, 5+chance.Intn(15), false)
		_, a, err := of(t, 3, k)
		if err != api.OK {
			continue
		}
		taken++
		asMean(t, k, a, [][]api.Letter{growTrace(chance, 200+chance.Intn(200), []int{1, 2, 8}[seed%3])})
	}
	if taken < 60 {
		t.Error("the test reaches little:", taken)
	}
}

func TestAllLettersOfEightPropositions(t *testing.T) {
	for _, s := range []string{
		"P0 P1 P2 P3 P4 P5 P6 P7 And*7 Next", "P0 P1 Not And Step P2 P3 Or Step Seq Star P4 P5 Until Dia", "P7 Step Star P6 Box P5 P4 Release And", "True P0 P7 Not And P3 Next And Until", "False P0 P1 Or P2 Or P3 Or P4 Weak Or Release",
		"True P0 P3 And P5 And P7 Not And Until True P1 P6 Or Until And",
	} {
		k := tokens(s)
		_, a, _ := sameAsModel(t, 8, k)
		chance := rand.New(rand.NewSource(5))
		for x := range 256 {
			asMean(t, k, a, [][]api.Letter{{api.Letter(x)}, {0, api.Letter(x)}, {api.Letter(x), 255}, growTrace(chance, 5, 256)})
		}
	}
	// The greatest one.
	k := parted(soon(7, "P0 P6 Not And P4 And"), soon(7, "P0 P2 Not And"))
	_, a := made(t, 8, k)
	chance := rand.New(rand.NewSource(6))
	for range 2000 {
		asMean(t, k, a, [][]api.Letter{growTrace(chance, chance.Intn(30), 256)})
	}
}

// Obligations that grow above what a kernel formula may have

// grown tells how many tokens the longest obligation has that is met by some letters from Start on.
func grown(t *testing.T, k []api.Tok, letters ...api.Letter) int {
	t.Helper()
	p, err := prog.New(k)
	if err != api.OK {
		t.Fatal(told(k), err)
	}
	long := 0
	for _, x := range letters {
		if _, err := p.Step(p.Start(), x); err != api.OK {
			t.Fatal(told(k), err)
		}
	}
	for _, a := range p.Atoms() {
		long = max(long, len(a))
	}
	return long
}

func TestObligationsOfManyTokens(t *testing.T) {
	for _, s := range []string{"P1 Not Dia", "P1 Dia", "P1 Not Box", "P1 Box"} {
		k := tokens("P0 P0 Or Step Star*60 " + s)
		if grown(t, k, 1, 3) <= api.MaxKernel {
			t.Fatal("the test's obligations are short")
		}
		_, a := made(t, 2, k)
		asMean(t, k, a, traces(5, 4))
	}
}

func TestTheLongestFormulas(t *testing.T) {
	for _, k := range [][]api.Tok{
		tokens("P0*1024 And*1023"), append(tokens("P0"), slices.Repeat(tokens("P1 Or"), 1023)...),
		append(tokens("P0"), slices.Repeat(tokens("Test P1 Dia"), 682)...), append(tokens("P0"), slices.Repeat(tokens("Test P1 Box"), 682)...),
		slices.Concat(slices.Repeat(tokens("P0 Step"), 682), tokens("Plus*681 P1 Dia")), slices.Concat(slices.Repeat(tokens("P0 Test"), 682), tokens("Seq*681 P1 Box")),
		tokens("P0 Step Star*700 P1 Dia"),
	} {
		if kernel.Check(k) != api.OK {
			t.Fatal("the test's tokens are no kernel formula's:", len(k))
		}
		_, a := made(t, 2, k)
		for _, tr := range traces(3, 4) {
			is := accepts(t, a, tr)
			if must, no := mean.At(k, tr, 0); no == api.OK && is != must {
				t.Error(len(k), told(k[:4]), tr, is)
			}
		}
	}
}

// P1, and the rules that hold everywhere

// spoil writes over a list, and over its spare room.
func spoil[T any](l []T, with T) {
	l = l[:cap(l)]
	for i := range l {
		l[i] = with
	}
}

func TestAnswersShareNoMemory(t *testing.T) {
	for _, s := range []string{"P0 Next P1 Weak Or", "P0 P1 Until", "P0 Step Star P1 Step Seq Star P0 Dia", "P0 P1 Release P0 Step P1 Next Box And", "P0 P1 Or P1 P0 Not Or And Next", "True", "False"} {
		k := tokens(s)
		lists, a := made(t, 2, k)
		all, b := made(t, 2, k)
		text, must := toldLists(lists), toldAuto(a)
		if told(k) != s {
			t.Fatal(s, told(k))
		}
		// No two lists of one answer share any, their spare room neither.
		for i := range lists {
			was := slices.Clone(lists[i])
			spoil(lists[i], 99)
			for j := i + 1; j < len(lists); j++ {
				if !slices.Equal(lists[j], all[j]) {
					t.Fatal(s, i, j, lists[j])
				}
			}
			copy(lists[i], was)
		}
		for _, l := range lists {
			spoil(l, 99)
		}
		spoil(lists, []uint64{99})
		spoil(a.Accept, true)
		spoil(a.Guard, 99)
		spoil(a.Nodes, api.Node{P: 99})
		if told(k) != s || toldLists(all) != text || toldAuto(b) != must {
			t.Fatal(s, "an answer shares memory")
		}
		if again, c := made(t, 2, k); toldLists(again) != text || toldAuto(c) != must {
			t.Fatal(s, "a later answer is another one")
		}
		// What was handed in may change behind the call.
		spoil(k, api.Tok{Op: 99, P: 99})
		if toldLists(all) != text || toldAuto(b) != must {
			t.Fatal(s, toldAuto(b))
		}
	}
}

func TestNoTokenIsChangedOrReadBehindTheEnd(t *testing.T) {
	room := tokens("P0 P1 Until P0 Next Or P0 Step Star P1 Over And Dia And P0 Not Test Star P1 P0 Or Box And P7 Finally")
	was := slices.Clone(room)
	for i := range len(room) - 1 {
		for j := i; j < len(room)-1; j++ {
			// The spare room has tokens that would change what is told, or have it refused.
			lists, a, err := of(t, 2, room[i:j])
			all, b, must := modelOf(2, slices.Clip(slices.Clone(was[i:j])))
			if err != must || toldAuto(a) != toldAuto(b) || toldLists(lists) != toldLists(all) {
				t.Fatal(told(room[i:j]), err, must, toldAuto(a))
			}
			if !slices.Equal(room, was) {
				t.Fatal(i, j, told(room))
			}
		}
	}
}

func TestNilAndEmptyAreTheSame(t *testing.T) {
	for n := range 9 {
		refused(t, n, nil, api.ErrForm)
		refused(t, n, []api.Tok{}, api.ErrForm)
	}
}

func TestCallsAreCalm(t *testing.T) {
	chance := rand.New(rand.NewSource(91))
	kept := 0
	for range 20000 {
		k := make([]api.Tok, chance.Intn(9))
		for i := range k {
			k[i] = api.Tok{Op: api.Op(chance.Intn(25))}
			if chance.Intn(40) == 0 {
				k[i] = api.Tok{Op: api.Op(chance.Intn(256)), P: uint8(chance.Intn(256))}
			}
		}
		if _, _, err := sameAsModel(t, chance.Intn(4)-1, k); err == api.OK {
			kept++
		}
	}
	if kept < 200 {
		t.Error("just", kept, "are formulas")
	}
	for op := range 256 {
		for _, n := range []int{0, 1, 2, 64, 2048, 2049} {
			sameAsModel(t, 1, slices.Repeat([]api.Tok{{Op: api.Op(op)}}, n))
		}
	}
}

func TestAnswersHangOnArgumentsAlone(t *testing.T) {
	tell := func() string {
		var said strings.Builder
		chance := rand.New(rand.NewSource(7))
		for range 60 {
			k := grow(chance, chance.Intn(20), false)
			for range 2 {
				a, err := det.Of(3, k)
				lists, _ := det.States(3, k)
				said.WriteString(toldAuto(a) + strconv.Itoa(int(err)) + toldLists(lists) + "\n")
			}
		}
		return said.String()
	}
	must := tell()
	var all sync.WaitGroup
	for range 8 {
		all.Go(func() {
			if got := tell(); got != must {
				t.Error("another answer")
			}
		})
	}
	all.Wait()
}
