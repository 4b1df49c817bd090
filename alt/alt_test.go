package alt_test

import (
	"math"
	"math/rand"
	"slices"
	"strconv"
	"strings"
	"sync"
	"testing"

	"rejoinder/alt"
	"rejoinder/api"
	"rejoinder/kernel"
	"rejoinder/mean"
	"rejoinder/prog"
	"rejoinder/sets"
)

// example is what must be told of a formula and a trace.
type example struct{ formula, trace, lists, held, atoms, all string }

// asks asks all four functions of a case. Sat is whether All is so at first.
func (c example) asks(t *testing.T) {
	t.Helper()
	k, tr := tokens(c.formula), trace(c.trace)
	r := ask(t, k, tr)
	if got := toldLists(r.lists); got != c.lists || r.forward != api.OK {
		t.Errorf("Forward(%s; %s) = %s, %d, not %s", c.formula, c.trace, got, r.forward, c.lists)
	}
	if got := toldSets(r.held); got != c.held || r.backward != api.OK {
		t.Errorf("Backward(%s; %s) = %s, %d, not %s", c.formula, c.trace, got, r.backward, c.held)
	}
	if got := toldAll(r.atoms); got != c.atoms {
		t.Errorf("Backward(%s; %s) has %s, not %s", c.formula, c.trace, got, c.atoms)
	}
	if got := toldBools(r.all); got != c.all || r.allErr != api.OK {
		t.Errorf("All(%s; %s) = %s, %d, not %s", c.formula, c.trace, got, r.allErr, c.all)
	}
	if r.sat != (c.all[0] == '1') || r.satErr != api.OK {
		t.Errorf("Sat(%s; %s) = %t, %d", c.formula, c.trace, r.sat, r.satErr)
	}
	sameAsModel(t, k, tr)
	follows(t, k, tr, r)
}

// refused asks all four functions of what each must refuse.
func refused(t *testing.T, k []api.Tok, tr []api.Letter, must api.Errno) {
	t.Helper()
	r := ask(t, k, tr)
	if r.forward != must || r.backward != must || r.satErr != must || r.allErr != must {
		t.Errorf("%d tokens, %.80s, %d letters: %d %d %d %d, not %d", len(k), told(k), len(tr), r.forward, r.backward, r.satErr, r.allErr, must)
	}
}

// taken asks all four functions of what none may refuse.
func taken(t *testing.T, k []api.Tok, tr []api.Letter) run {
	t.Helper()
	r := ask(t, k, tr)
	if r.forward != api.OK || r.backward != api.OK || r.satErr != api.OK || r.allErr != api.OK {
		t.Errorf("%d tokens, %.80s, %d letters: %d %d %d %d", len(k), told(k), len(tr), r.forward, r.backward, r.satErr, r.allErr)
	}
	return r
}

// refusedForward asks all four functions of what is refused while a list is stepped alone: going backward no list is.
func refusedForward(t *testing.T, k []api.Tok, tr []api.Letter) {
	t.Helper()
	r := ask(t, k, tr)
	if r.forward != api.ErrObligations || r.satErr != api.ErrObligations || r.backward != api.OK || r.allErr != api.OK {
		t.Errorf("%d tokens, %.80s, %d letters: %d %d %d %d", len(k), told(k), len(tr), r.forward, r.satErr, r.backward, r.allErr)
	}
	sameAsModel(t, k, tr)
	follows(t, k, tr, r)
}

// The chapter's examples

func TestExamples(t *testing.T) {
	example{"P0 P1 Until", "1 2 3", "1; 1; 0; 0", "1 1 1 0", "P0 P1 Until", "1110"}.asks(t)
	example{"P1 Next", "1 2 3", "1; 6; 0; 0", "3 7 6 0", "P1 Next; More; P1", "1100"}.asks(t)
	if is, err := alt.Sat(tokens("P0 Weak"), nil); !is || err != api.OK {
		t.Error(is, err)
	}
	refused(t, tokens("P0 Finally"), trace("1 2 3"), api.ErrForm)
	refused(t, tokens("P0 Finally"), nil, api.ErrForm)
}

// P12.1

// noKernel tells tokens that are no kernel formula's.
func noKernel() [][]api.Tok {
	var all [][]api.Tok
	for _, s := range []string{
		"", "P0 P1", "P0 And", "And", "Next", "Not", "P0 Until", "P0 P1 Dia", "P0 Step", "P0 Step Star", "P0 Test", "P0 Step P1 Test Seq", "P0 Step P1", "P0 Step Next", "Star", "Box",
		"True Not", "P0 Not Not", "P0 P1 And Not", "P0 Next Not", "Last", "P0 Finally", "P0 Globally", "P0 P1 Imp", "P0 P1 Iff", "P0 Finally Test P1 Dia", "P0 P1 Imp Step P1 Dia",
		"More Step P0 Dia", "P0 Next Step P1 Dia", "P0 P1 Until Step P1 Dia", "P0*2048",
	} {
		all = append(all, tokens(s))
	}
	for _, tok := range []api.Tok{{Op: api.Prop, P: 8}, {Op: api.Prop, P: 255}, {Op: api.True, P: 1}, {Op: api.And, P: 1}, {Op: 24}, {Op: 32}, {Op: 255, P: 255}} {
		all = append(all, []api.Tok{tok}, []api.Tok{{Op: api.Prop}, tok}, []api.Tok{{Op: api.Prop}, {Op: api.Prop, P: 1}, tok})
	}
	// A formula that New would refuse beside its form.
	return append(all, slices.Concat(many(65, "And"), tokens("Finally")), slices.Concat(pairs(11, ""), tokens("Last And")))
}

// allLetters tells a trace of so many letters, in which each of as many as may be stands, not rising.
func allLetters(n int) []api.Letter {
	tr := make([]api.Letter, n)
	for i := range tr {
		tr[i] = api.Letter(255 - i*37)
	}
	return tr
}

func TestWhatIsNoKernelFormulaIsRefused(t *testing.T) {
	for _, k := range noKernel() {
		if kernel.Check(k) != api.ErrForm {
			t.Error("the test's tokens are a kernel formula's:", told(k))
		}
		// The form is told ahead of a trace that is too long.
		for _, n := range []int{0, 1, 3, 1024, 1025, 5000} {
			refused(t, k, allLetters(n), api.ErrForm)
		}
	}
	// Too many tokens are told ahead of their form.
	for _, k := range [][]api.Tok{tokens("P0 Next*2048"), tokens("P0*2049"), tokens("And*3000"), make([]api.Tok, 1000000), append(tokens("P0 Next*2048"), api.Tok{Op: 99})} {
		for _, n := range []int{0, 1, 1024, 1025} {
			refused(t, k, allLetters(n), api.ErrLong)
		}
	}
	// Just as many as may be.
	taken(t, tokens("P0 Next*2047"), nil)
	taken(t, tokens("True Weak P0*1023 And*1023"), trace("1 0 255"))
}

func TestATraceThatIsTooLong(t *testing.T) {
	for _, s := range []string{"True", "False", "P0", "P0 P1 Until", "P0 Step Star P7 Not Box"} {
		k := tokens(s)
		for _, n := range []int{1025, 1026, 4096, 1 << 20} {
			refused(t, k, allLetters(n), api.ErrLong)
			refused(t, k, make([]api.Letter, n), api.ErrLong)
		}
		for _, n := range []int{1023, 1024} {
			for _, tr := range [][]api.Letter{allLetters(n), make([]api.Letter, n)} {
				r := taken(t, k, tr)
				if len(r.lists) != n+1 || len(r.held) != n+1 || len(r.all) != n+1 {
					t.Error(s, n, len(r.lists), len(r.held), len(r.all))
				}
				follows(t, k, tr, r)
			}
		}
	}
	// It is told ahead of too many obligations, wherever they are met.
	for _, k := range [][]api.Tok{many(65, "And"), pairs(11, ""), tokens("P0 Next*63"), append(pairs(11, ""), tokens("Next")...), pairs(11, "Next")} {
		refused(t, k, make([]api.Letter, 1025), api.ErrLong)
	}
	// Each letter is one of 8 propositions.
	for x := range 256 {
		taken(t, tokens("P0 P7 Until"), []api.Letter{api.Letter(x)})
	}
}

func TestAFormulaWhoseNewIsRefused(t *testing.T) {
	for _, k := range [][]api.Tok{many(65, "And"), many(65, "Or"), many(100, "And"), pairs(11, ""), append(many(64, "Or"), tokens("P0 False And Or")...), append(pairs(10, ""), tokens("True Or")...)} {
		if _, err := prog.New(k); err != api.ErrObligations || kernel.Check(k) != api.OK {
			t.Fatal("the test's formula is not refused:", told(k), err)
		}
		for _, n := range []int{0, 1, 2, 1024} {
			refused(t, k, allLetters(n), api.ErrObligations)
		}
	}
}

// row tells a path of so many Steps of P0, one behind the other, and then P1.
func row(n int) []api.Tok {
	return slices.Concat(slices.Repeat(tokens("P0 Step"), n), tokens("Seq*" + strconv.Itoa(n))[1:], tokens("P1 Dia"))
}

func TestAFormulaThatIsRefusedWhileItIsClosed(t *testing.T) {
	for _, k := range [][]api.Tok{
		// What comes many letters behind is met, however short the trace is.
		tokens("P0 Next*63"), tokens("P0 Weak*63"), tokens("P0 Next*2047"), tokens("P1 P0 Next*63 Until"), append(tokens("P0"), slices.Repeat(tokens("P1 Until"), 65)...),
		// Too many sets.
		append(pairs(11, ""), tokens("Next")...), append(pairs(10, ""), tokens("Weak")...), append(pairs(11, ""), tokens("Next*5")...), slices.Concat(tokens("P0"), pairs(11, "Next"), tokens("And P1 Until")),
	} {
		if _, err := prog.New(k); err != api.OK {
			t.Fatal("the test's formula is refused at once:", told(k), err)
		}
		taken(t, k, nil)
		for _, n := range []int{1, 2, 70, 1024} {
			refused(t, k, allLetters(n), api.ErrObligations)
			refused(t, k, make([]api.Letter, n), api.ErrObligations)
		}
	}
	// Each letter that stands anywhere in the trace is gone by, no other one.
	k := row(65)
	for _, s := range []string{"", "0", "2", "0 2 4 6 254", "0 0 0"} {
		follows(t, k, trace(s), taken(t, k, trace(s)))
	}
	for _, s := range []string{"1", "0 1", "1 0", "0 0 0 0 255 0", "0 2 4 3", "254 255"} {
		refused(t, k, trace(s), api.ErrObligations)
	}
	// Even by a letter that comes where nothing is to do any more: 0 leaves none.
	lists, err := alt.Forward(row(60), trace("0 1"))
	if toldLists(lists) != "1; none; none" || err != api.OK {
		t.Error(toldLists(lists), err)
	}
	// Even where it is an obligation that no letter leaves to do: P0 ahead of all is not so.
	refused(t, slices.Concat(tokens("P0"), tokens("P1 Next*63 And")), trace("0"), api.ErrObligations)
}

func TestAFormulaThatIsRefusedWhileAListIsStepped(t *testing.T) {
	k := pairs(11, "Next")
	taken(t, k, nil)
	for _, s := range []string{"0", "1", "255", "0 0", "1 2 3", "255 255 255"} {
		refusedForward(t, k, trace(s))
	}
	// At the second letter, and at the third.
	taken(t, append(pairs(11, "Next"), tokens("Next")...), trace("3"))
	refusedForward(t, append(pairs(11, "Next"), tokens("Next")...), trace("3 255"))
	refusedForward(t, append(pairs(11, "Next"), tokens("Next")...), trace("3 255 7 0"))
	taken(t, append(pairs(11, "Next"), tokens("Next*2")...), trace("3 3"))
	refusedForward(t, append(pairs(11, "Next"), tokens("Next*2")...), trace("3 3 3"))
	// Where the letter P7 is asked ahead of them all nothing is to do without it.
	k = slices.Concat(tokens("P7"), pairs(11, "Next"), tokens("And"))
	taken(t, k, trace("127 128"))
	refusedForward(t, k, trace("128 127"))
	// More sets than may be, of two sets.
	k = slices.Concat(pairs(10, "Next"), different(40), tokens("Next Or"))
	taken(t, k, nil)
	refusedForward(t, k, trace("0"))
	refusedForward(t, k, trace("255 0"))
	// As many as may be.
	r := taken(t, pairs(10, "Next"), trace("0 255"))
	if len(r.lists[1]) != 1024 || !sets.Check(r.lists[1]) || len(r.atoms) != 31 || toldLists(r.lists[2:]) != "0" || !r.sat {
		t.Error(len(r.lists[1]), len(r.atoms), toldLists(r.lists[2:]), r.sat)
	}
}

// P12.2, P12.3

func TestEachKindOfFormula(t *testing.T) {
	for _, c := range []example{
		{"True", "", "0", "0", "", "1"},
		{"True", "1 2", "0; 0; 0", "0 0 0", "", "111"},
		{"False", "", "none", "0", "", "0"},
		{"False", "1 2", "none; none; none", "0 0 0", "", "000"},
		{"P0", "", "1", "0", "P0", "0"},
		{"P0", "1 0", "1; 0; 0", "1 0 0", "P0", "100"},
		{"P7", "127 128 255", "1; none; none; none", "0 1 1 0", "P7", "0110"},
		{"P0 Not", "", "1", "1", "P0 Not", "1"},
		{"P0 Not", "1 0", "1; none; none", "0 1 1", "P0 Not", "011"},
		{"More", "", "1", "0", "More", "0"},
		{"More", "0", "1; 0", "1 0", "More", "10"},
		{"Over", "", "1", "1", "Over", "1"},
		{"Over", "0", "1; none", "0 1", "Over", "01"},
		{"P0 Next", "", "1", "0", "P0 Next", "0"},
		{"P0 Next", "0", "1; 6", "2 0", "P0 Next; More; P0", "00"},
		{"P0 Next", "0 1 1", "1; 6; 0; 0", "3 7 6 0", "P0 Next; More; P0", "1100"},
		{"P0 Weak", "", "1", "1", "P0 Weak", "1"},
		{"P0 Weak", "0", "1; 2 4", "1 3", "P0 Weak; Over; P0", "11"},
		{"P0 Weak", "0 1", "1; 2 4; 0", "1 5 3", "P0 Weak; Over; P0", "111"},
		{"P0 Weak", "1 0", "1; 2 4; none", "4 1 3", "P0 Weak; Over; P0", "011"},
		{"P0 P1 And", "", "3", "0", "P0; P1", "0"},
		{"P0 P1 And", "3 1", "3; 0; 0", "3 1 0", "P0; P1", "100"},
		{"P0 P1 Or", "2 0", "1 2; 0; 0", "2 0 0", "P0; P1", "100"},
		{"P0 P1 Until", "", "1", "0", "P0 P1 Until", "0"},
		{"P0 P1 Until", "1 1 2", "1; 1; 1; 0", "1 1 1 0", "P0 P1 Until", "1110"},
		{"P0 P1 Until", "1 0 2", "1; 1; none; none", "0 0 1 0", "P0 P1 Until", "0010"},
		{"P0 P1 Until", "1 1", "1; 1; 1", "0 0 0", "P0 P1 Until", "000"},
		{"P0 P1 Release", "", "1", "1", "P0 P1 Release", "1"},
		{"P0 P1 Release", "2 2", "1; 1; 1", "1 1 1", "P0 P1 Release", "111"},
		{"P0 P1 Release", "2 3 0", "1; 1; 0; 0", "1 1 0 1", "P0 P1 Release", "1101"},
		{"P0 P1 Release P0 P1 Until And", "3", "3; 0", "3 1", "P0 P1 Release; P0 P1 Until", "10"},
	} {
		c.asks(t)
	}
}

func TestEachKindOfPath(t *testing.T) {
	for _, c := range []example{
		{"P0 Step P1 Dia", "", "1", "0", "P0 Step P1 Dia", "0"},
		{"P0 Step P1 Dia", "2", "1; none", "0 0", "P0 Step P1 Dia", "00"},
		{"P0 Step P1 Dia", "1 2", "1; 2; 0", "1 2 0", "P0 Step P1 Dia; P1", "100"},
		{"P0 Step P1 Box", "", "1", "1", "P0 Step P1 Box", "1"},
		{"P0 Step P1 Box", "1 2", "1; 2; 0", "1 3 1", "P0 Step P1 Box; P1", "111"},
		{"P0 Step P1 Box", "2 1", "1; 0; 0", "3 0 1", "P0 Step P1 Box; P1", "101"},
		{"P0 Test P1 Dia", "3 1", "1; 0; 0", "1 0 0", "P0 Test P1 Dia", "100"},
		{"P0 Not Test P1 Not Dia", "", "1", "1", "P0 Not Test P1 Not Dia", "1"},
		{"P0 Test P1 Box", "1 3 2", "1; none; none; none", "0 1 1 1", "P0 Test P1 Box", "0111"},
		{"P0 Step P1 Step Plus P2 Dia", "2 4", "1; 2; 0", "1 2 0", "P0 Step P1 Step Plus P2 Dia; P2", "100"},
		{"P0 Step P1 Step Plus P2 Box", "3 4 0", "1; 2; 0; 0", "1 3 1 1", "P0 Step P1 Step Plus P2 Box; P2", "1111"},
		// What the second part of a Seq needs is met by its letter, whether a way of the first part comes there or not.
		{"P0 Step P1 Step Seq P2 Dia", "1 2 4", "1; 2; 4; 0", "1 2 4 0", "P0 Step P1 Step Seq P2 Dia; P1 Step P2 Dia; P2", "1000"},
		{"P0 Step P1 Step Seq P2 Box", "1 2 0", "1; 2; 4; none", "2 1 3 3", "P0 Step P1 Step Seq P2 Box; P1 Step P2 Box; P2", "0111"},
		{"P0 Step Star P1 Dia", "1 1 2", "1; 1; 1; 0", "1 1 1 0", "P0 Step Star P1 Dia", "1110"},
		{"P0 Step Star P1 Dia", "1 1 1", "1; 1; 1; 1", "0 0 0 0", "P0 Step Star P1 Dia", "0000"},
		{"P0 Step Star P1 Box", "3 2", "1; 1; 0", "1 1 0", "P0 Step Star P1 Box", "110"},
		{"P0 Step Star Over Dia", "1 1", "1; 1; 1", "1 1 1", "P0 Step Star Over Dia", "111"},
		{"P0 Step Star Over Dia", "", "1", "1", "P0 Step Star Over Dia", "1"},
	} {
		c.asks(t)
	}
}

func TestTheOrderInWhichObligationsAreMet(t *testing.T) {
	// By letters, rising, each once, however they stand.
	plus := "P0 Step P2 Step Seq P1 Step P3 Step Seq Plus P4 Dia"
	for s, must := range map[string]string{
		"": "", "0": "", "1": "; P2 Step P4 Dia", "2": "; P3 Step P4 Dia", "0 0 1": "; P2 Step P4 Dia", "2 2 2": "; P3 Step P4 Dia", "4": "; P4", "12": "; P4", "16 64": "",
		"1 2": "; P2 Step P4 Dia; P3 Step P4 Dia", "2 1": "; P2 Step P4 Dia; P3 Step P4 Dia", "2 0 2 1 1 2": "; P2 Step P4 Dia; P3 Step P4 Dia", "3": "; P2 Step P4 Dia; P3 Step P4 Dia",
		"8 2 1 4": "; P2 Step P4 Dia; P3 Step P4 Dia; P4", "130 129": "; P2 Step P4 Dia; P3 Step P4 Dia", "65 2": "; P3 Step P4 Dia; P2 Step P4 Dia", "6 1": "; P2 Step P4 Dia; P4; P3 Step P4 Dia", "6 17": "; P4; P3 Step P4 Dia; P2 Step P4 Dia",
	} {
		_, atoms, err := alt.Backward(tokens(plus), trace(s))
		if toldAll(atoms) != plus+must || err != api.OK {
			t.Errorf("by %s: %s, %d, not %s", s, toldAll(atoms), err, must)
		}
	}
	// All letters of an obligation, and then the next one: P2 is met by the letter 2, ahead of P3 by the letter 1. Forward goes by these numbers, too.
	example{"P1 Step P2 Dia P0 Step P3 Dia Or", "1 8 2", "1 2; 8; 0; 0", "2 8 0 0", "P1 Step P2 Dia; P0 Step P3 Dia; P2; P3", "1000"}.asks(t)
	example{"P1 Step P2 Dia P0 Step P3 Dia And", "1 2", "3; none; none", "0 0 0", "P1 Step P2 Dia; P0 Step P3 Dia; P2; P3", "000"}.asks(t)
	// What is met on the way likewise, though the trace ends ahead of it, and though it is not to do there.
	example{"P0 Next Next Next", "0", "1; 6", "2 0", "P0 Next Next Next; More; P0 Next Next; P0 Next; P0", "00"}.asks(t)
	example{"P0 Next Next Next", "", "1", "0", "P0 Next Next Next", "0"}.asks(t)
	example{"P0 P1 Weak Next And", "0", "3; none", "12 24", "P0; P1 Weak Next; More; P1 Weak; Over; P1", "00"}.asks(t)
	example{"P0 P1 Next And P2 Until", "4 0", "1; 0; 0", "3 2 0", "P0 P1 Next And P2 Until; More; P1", "100"}.asks(t)
	// What a letter further on makes of what the first one left.
	example{"P0 Step P1 Step P2 Dia Dia", "2 1", "1; none; none", "0 0 0", "P0 Step P1 Step P2 Dia Dia; P1 Step P2 Dia; P2", "000"}.asks(t)
	example{"P0 Step P1 Step P2 Dia Dia", "1 1", "1; 2; none", "0 0 0", "P0 Step P1 Step P2 Dia Dia; P1 Step P2 Dia", "000"}.asks(t)
}

func TestForwardLists(t *testing.T) {
	for _, c := range []struct{ formula, trace, must string }{
		{"P0 Next P1 Weak And", "0 3", "3; 28 44; 0"},
		{"P0 Next P1 Weak Or", "0 2 0", "1 2; 12 16 32; 0; 0"},
		{"P0 P1 Until Next", "0 1 1 2", "1; 6; 4; 4; 0"},
		{"False P0 Next Release", "0 1 1", "1; 7; 7; 7"},
		{"False True P0 Until Release", "0 1 0", "1; 3; 1; 3"},
		{"True P0 P1 And Until", "0 3 0", "1; 1; 0; 0"},
	} {
		lists, err := alt.Forward(tokens(c.formula), trace(c.trace))
		if toldLists(lists) != c.must || err != api.OK {
			t.Errorf("Forward(%s; %s) = %s, %d, not %s", c.formula, c.trace, toldLists(lists), err, c.must)
		}
		sameAsModel(t, tokens(c.formula), trace(c.trace))
	}
	// Each list is Start's, stepped by the letters ahead of it: the same ones for a trace that goes on by letters that stand in it.
	k := tokens("P0 P1 Until P1 P2 Next Release And P0 Step P1 Step Seq Star P2 Dia Or")
	tr := trace("1 3 6 7 2 0 5 4 1 3 6 7 2 0 5 4")
	long, err := alt.Forward(k, tr)
	if err != api.OK || len(long) != 17 {
		t.Fatal(len(long), err)
	}
	for n := 8; n <= len(tr); n++ {
		lists, err := alt.Forward(k, tr[:n])
		if toldLists(lists) != toldLists(long[:n+1]) || err != api.OK {
			t.Error(n, toldLists(lists), err)
		}
	}
}

func TestBackwardGoesFromTheEnd(t *testing.T) {
	// Each set hangs on the letters behind it alone, and on which ones stand in the trace.
	k := tokens("P0 P1 Until P1 P2 Next Release And P0 Step P1 Step Seq Star P2 Dia Or")
	tr := trace("1 3 6 7 2 0 5 4 1 3 6 7 2 0 5 4")
	long, atoms, err := alt.Backward(k, tr)
	if err != api.OK || len(long) != 17 {
		t.Fatal(len(long), err)
	}
	for n := range 9 {
		held, others, err := alt.Backward(k, tr[n:])
		all, errAll := alt.All(k, tr[n:])
		must, _ := mean.All(k, tr)
		if toldSets(held) != toldSets(long[n:]) || toldAll(others) != toldAll(atoms) || err != api.OK || toldBools(all) != toldBools(must[n:]) || errAll != api.OK {
			t.Error(n, toldSets(held), err, toldBools(all), errAll)
		}
	}
}

func TestTheSameLetterAgainAndAgain(t *testing.T) {
	for _, c := range []struct {
		formula string
		x       api.Letter
		list    string // from the second one on
		held    string // at each position, and at the end
		sat     bool
	}{
		{"P0 P1 Until", 1, "1", "0 0", false},
		{"P0 P1 Until", 3, "0", "1 0", true},
		{"P0 P1 Release", 2, "1", "1 1", true},
		{"P0 P1 Release", 1, "none", "0 1", false},
		{"True Step Star P0 Box", 1, "1", "0 0", false},
		{"True Step Star P0 Over Or Box", 1, "1", "1 1", true},
		{"P0 Step Star Over Dia", 1, "1", "1 1", true},
	} {
		for _, n := range []int{1, 2, 3, 100, 1024} {
			tr := slices.Repeat([]api.Letter{c.x}, n)
			r := taken(t, tokens(c.formula), tr)
			at, end, _ := strings.Cut(c.held, " ")
			if toldLists(r.lists) != "1"+strings.Repeat("; "+c.list, n) || toldSets(r.held) != strings.Repeat(at+" ", n)+end || r.sat != c.sat || len(r.atoms) != 1 {
				t.Errorf("%s, by %d %d times: %.100s", c.formula, c.x, n, r.text())
			}
			follows(t, tokens(c.formula), tr, r)
		}
	}
	// An even number of letters, or an odd one.
	odd := tokens("True Step True Step Seq Star More False Weak And Dia")
	for n := range 9 {
		tr := make([]api.Letter, n)
		r := taken(t, odd, tr)
		for i, is := range r.all {
			if is != ((n-i)%2 == 1) {
				t.Error(n, i, is)
			}
		}
		follows(t, odd, tr, sameAsModel(t, odd, tr))
	}
}

func TestJustAsManyObligationsAsMayBe(t *testing.T) {
	k := tokens("P0 Next*62")
	tr := append(make([]api.Letter, 62), 1, 0)
	r := taken(t, k, tr)
	if len(r.atoms) != 64 || told(r.atoms[62]) != "P0 Next" || told(r.atoms[63]) != "P0" || !slices.Equal(r.atoms[0], k) {
		t.Fatal(toldAll(r.atoms))
	}
	if !r.sat || toldBools(r.all) != "1"+strings.Repeat("0", 64) {
		t.Error(r.sat, toldBools(r.all))
	}
	for i := 1; i <= 62; i++ {
		if must := uint64(2 | 1<<(i+1)); !slices.Equal(r.lists[i], []uint64{must}) || r.held[i] != must {
			t.Error(i, r.lists[i], r.held[i])
		}
	}
	if r.held[0] != 3 || r.held[63] != 2 || r.held[64] != 0 || toldLists(r.lists[63:]) != "0; 0" {
		t.Error(toldSets(r.held), toldLists(r.lists[63:]))
	}
	tr[62], tr[63] = 0, 1
	if is, err := alt.Sat(k, tr); is || err != api.OK {
		t.Error(is, err)
	}
	all, err := alt.All(k, tr)
	if toldBools(all) != "01"+strings.Repeat("0", 63) || err != api.OK {
		t.Error(toldBools(all), err)
	}
	refused(t, tokens("P0 Next*63"), tr, api.ErrObligations)
	// The last one is asked at the end, too.
	r = taken(t, slices.Concat(many(63, "Or"), tokens("Over Or")), nil)
	if len(r.atoms) != 64 || !slices.Equal(r.held, []uint64{1 << 63}) || !r.sat || toldBools(r.all) != "1" {
		t.Error(len(r.atoms), toldSets(r.held), r.sat, toldBools(r.all))
	}
	for _, op := range []string{"And", "Or"} {
		k = many(64, op)
		for _, tr := range [][]api.Letter{nil, {0}, {255}, {255, 0, 255}, {1, 2, 4, 8, 16, 32, 64, 128}, allLetters(300)} {
			r := sameAsModel(t, k, tr)
			follows(t, k, tr, r)
			if len(r.atoms) != 64 || r.forward != api.OK {
				t.Error(op, len(r.atoms), r.forward)
			}
		}
		r := taken(t, k, trace("255 0 127"))
		// Without P7 those of P7 alone are not satisfied: the last eight, P0 P7 Until up to P7 P7 Until.
		if toldSets(r.held) != strconv.FormatUint(math.MaxUint64, 10)+" 0 "+strconv.FormatUint(math.MaxUint64>>8, 10)+" 0" || !r.sat {
			t.Error(op, toldSets(r.held), r.sat)
		}
	}
}

func TestAllLettersInOneTrace(t *testing.T) {
	for _, s := range []string{
		"P0 P1 P2 P3 P4 P5 P6 P7 And*7 Next", "P0 P1 Not And Step P2 P3 Or Step Seq Star P4 P5 Until Dia", "P7 Step Star P6 Box P5 P4 Release And", "True P0 P7 Not And P3 Next And Until", "False P0 P1 Or P2 Or P3 Or P4 Weak Or Release",
	} {
		k := tokens(s)
		for _, tr := range [][]api.Letter{allLetters(256), allLetters(1024), slices.Concat(allLetters(256), make([]api.Letter, 768))} {
			r := taken(t, k, tr)
			if got, must := r.text(), model(k, tr).text(); got != must {
				t.Errorf("%s, of %d letters: %.200s, not %.200s", s, len(tr), got, must)
			}
			follows(t, k, tr, r)
		}
	}
}

// P12.4

func TestShortTracesAsMeanSays(t *testing.T) {
	some := traces(4, 4)
	for _, s := range []string{
		"P0 P1 Until", "P0 P1 Release", "P0 Next P1 Weak And", "True P0 Until", "False P0 Release", "False True P0 Until Release", "True False P0 Release Until", "P0 P1 Until P1 P0 Release And Next",
		"P0 Step Star P1 Dia", "P0 Step Star P1 Box", "P0 Step P1 Step Seq Star Over Dia", "P0 Step P1 Step Seq Star More Box", "P0 Step P1 Step Plus Star P1 Not Next Dia", "True Step True Step Seq Star More False Weak And Dia",
		"P0 Test P1 Step Seq Star P0 Not Dia", "P0 Test P1 Step Seq Star P0 Not Box", "P0 Step Star P1 Step Star Seq Star P1 Not Dia", "P0 Step Star Star P1 Box", "P1 Next Test P0 Step Seq Star P0 Not Dia", "P1 Next Test P0 Step Seq Star P0 Not Box",
		"P0 Step Star P1 Dia Test True Step Seq Star P0 Dia", "P0 Step Star P1 Dia Test True Step Seq Star P0 Box", "P0 Step Star P1 Box Test True Step Seq P1 Step Plus Star P0 Box",
		"P0 Step Star P1 Test Seq P0 Step Seq Star P0 Step Star P1 Box Dia", "P0 Weak Test P1 Next Test Plus True Step Seq Star Over Box",
	} {
		k := tokens(s)
		for _, tr := range some {
			r := taken(t, k, tr)
			must, err := mean.All(k, tr)
			if err != api.OK || !slices.Equal(r.all, must) || r.sat != must[0] {
				t.Fatalf("%s, by %v: %s %t, not %s", s, tr, toldBools(r.all), r.sat, toldBools(must))
			}
			follows(t, k, tr, r)
		}
	}
}

func TestGrownFormulasAsMeanAndTheModelSay(t *testing.T) {
	refusals, onlyForward, satisfied, grown, most := 0, 0, 0, 0, 0
	for seed := range int64(2500) {
		chance := rand.New(rand.NewSource(seed))
		k := grow(chance, 1+chance.Intn(40), false)
		if seed%10 == 0 {
			// Many parts, each of the one or the other.
			for range 6 + chance.Intn(10) {
				k = slices.Concat(k, grow(chance, 1+chance.Intn(6), false), grow(chance, 1+chance.Intn(6), false), tokens([]string{"Or And", "Or Next And"}[chance.Intn(2)]))
			}
		}
		if seed%10 == 5 {
			// Many letters ahead.
			k = append(k, tokens("Next*"+strconv.Itoa(50+chance.Intn(16)))...)
		}
		tr := growTrace(chance, chance.Intn(10), []int{2, 4, 8, 256}[chance.Intn(4)])
		r := sameAsModel(t, k, tr)
		if r.backward != api.OK {
			refusals++
			continue
		}
		follows(t, k, tr, r)
		if r.forward != api.OK {
			onlyForward++
		}
		if r.sat {
			satisfied++
		}
		if slices.ContainsFunc(r.atoms, func(a []api.Tok) bool { return len(a) > len(k) }) {
			grown++
		}
		for _, l := range r.lists {
			if !sets.Check(l) {
				t.Fatal(told(k), tr, l)
			}
			most = max(most, len(l))
		}
	}
	if refusals < 50 || onlyForward < 5 || satisfied < 500 || grown < 50 || most < 20 {
		t.Error("the test reaches little:", refusals, onlyForward, satisfied, grown, most)
	}
}

func TestLongTracesAsMeanSays(t *testing.T) {
	for seed := range int64(60) {
		chance := rand.New(rand.NewSource(900 + seed))
		k := grow(chance, 5+chance.Intn(15), false)
		tr := growTrace(chance, 200+chance.Intn(200), []int{1, 2, 8, 256}[seed%4])
		r := ask(t, k, tr)
		if r.backward == api.OK {
			follows(t, k, tr, r)
		}
	}
}

// Obligations that grow above what a kernel formula may have

func TestObligationsOfManyTokens(t *testing.T) {
	for _, c := range []struct{ behind, trace, held string }{
		{"P1 Not Dia", "1 3 2", "3 0 0 3"},
		{"P1 Dia", "1 2 1", "3 3 0 0"},
		{"P1 Not Box", "1 2 1", "0 0 3 3"},
		{"P1 Box", "3 2 3", "3 3 0 0"},
	} {
		k := tokens("P0 P0 Or Step Star*60 " + c.behind)
		tr := trace(c.trace)
		r := taken(t, k, tr)
		if len(r.atoms) != 2 || len(r.atoms[1]) <= api.MaxKernel || toldSets(r.held) != c.held {
			t.Fatalf("%s: %d obligations, %s, not %s", told(k), len(r.atoms), toldSets(r.held), c.held)
		}
		if must, err := mean.All(k, tr); err != api.OK || !slices.Equal(r.all, must) {
			t.Errorf("%s: %s, not %s", told(k), toldBools(r.all), toldBools(must))
		}
		follows(t, k, tr, r)
	}
	// A negation that has more tokens, and is satisfied at the end.
	chain := append(tokens("P0"), slices.Repeat(tokens("P1 And"), 1020)...)
	r := taken(t, slices.Concat(chain, tokens("P3 Until Test P2 Box")), trace("3 3 0"))
	if len(r.atoms) != 2 || len(r.atoms[1]) <= api.MaxKernel || toldSets(r.held) != "3 3 3 3" || toldLists(r.lists) != "1; 2; 2; 0" {
		t.Error(len(r.atoms), toldSets(r.held), toldLists(r.lists))
	}
}

func TestTheLongestFormulas(t *testing.T) {
	for _, k := range [][]api.Tok{
		tokens("P0*1024 And*1023"), append(tokens("P0"), slices.Repeat(tokens("P1 Or"), 1023)...),
		append(tokens("P0"), slices.Repeat(tokens("Test P1 Dia"), 682)...), append(tokens("P0"), slices.Repeat(tokens("Test P1 Box"), 682)...),
		slices.Concat(slices.Repeat(tokens("P0 Step"), 682), tokens("Plus*681 P1 Dia")), slices.Concat(slices.Repeat(tokens("P0 Test"), 682), tokens("Seq*681 P1 Box")),
		tokens("P0 Step Star*700 P1 Dia"),
	} {
		if kernel.Check(k) != api.OK {
			t.Fatal("the test's tokens are no kernel formula's:", len(k))
		}
		r := taken(t, k, trace("3 1 2 0"))
		if len(r.lists) != 5 || r.sat != r.all[0] || !r.sat && sets.Holds(r.lists[4], r.held[4]) {
			t.Error(len(k), told(k[:4]), r.sat, toldBools(r.all))
		}
	}
}

// P1, and the rules that hold everywhere

// spoil writes over a list, and over its spare room.
func spoil[T any](l []T, with T) {
	l = l[:cap(l)]
	for i := range l {
		l[i] = with
	}
}

func TestAnswersShareNoMemory(t *testing.T) {
	bad := api.Tok{Op: 99, P: 99}
	for _, s := range []string{"P0 Next P1 Weak Or", "P0 P1 Until", "P0 Step Star P1 Step Seq Star P2 Dia", "P0 P1 Release P0 Step P1 Next Box And", "P0 P1 Or P1 P2 Or And Next", "True", "False"} {
		k, tr := tokens(s), trace("1 3 2 7 7 0 1")
		must := model(k, tr).text()
		r := ask(t, k, tr)
		// No two lists of one answer share any, their spare room neither.
		for i := range r.lists {
			was := toldLists(r.lists[i+1:]) + toldLists(r.lists[:i])
			spoil(r.lists[i], 99)
			if toldLists(r.lists[i+1:])+toldLists(r.lists[:i]) != was {
				t.Fatal(s, i, was)
			}
		}
		for i := range r.atoms {
			was := toldAll(r.atoms[i+1:])
			spoil(r.atoms[i], bad)
			if toldAll(r.atoms[i+1:]) != was {
				t.Fatal(s, i, was)
			}
		}
		spoil(r.lists, []uint64{99})
		spoil(r.held, 99)
		spoil(r.atoms, tokens("P7"))
		spoil(r.all, true)
		if told(k) != s || !slices.Equal(tr, trace("1 3 2 7 7 0 1")) {
			t.Fatal(s, "an answer shares what was handed in")
		}
		again := ask(t, k, tr)
		if again.text() != must {
			t.Fatal(s, again.text())
		}
		// What was handed in may change behind the call.
		spoil(k, bad)
		spoil(tr, 255)
		if again.text() != must {
			t.Fatal(s, again.text())
		}
	}
}

func TestNothingHandedInIsChangedOrReadBehindItsEnd(t *testing.T) {
	room := tokens("P0 P1 Until P0 Next Or P0 Step Star P1 Over And Dia And P0 Not Test Star P1 P0 Or Box And")
	letters := trace("1 3 0 2 255 1")
	was, were := slices.Clone(room), slices.Clone(letters)
	for i := range room {
		for j := i; j <= len(room); j++ {
			a, b := i%len(letters), min(len(letters), i%len(letters)+j%4)
			// The spare room has tokens and letters that would change what is told.
			got := ask(t, room[i:j], letters[a:b])
			must := model(slices.Clip(slices.Clone(was[i:j])), slices.Clip(slices.Clone(were[a:b])))
			if got.text() != must.text() {
				t.Fatalf("%s, by %v: %s, not %s", told(room[i:j]), letters[a:b], got.text(), must.text())
			}
			if !slices.Equal(room, was) || !slices.Equal(letters, were) {
				t.Fatal(i, j, told(room), letters)
			}
		}
	}
}

func TestNilAndEmptyAreTheSame(t *testing.T) {
	for _, s := range []string{"P0 Weak", "P0 Next", "True", "False", "P0 Step Star Over Dia"} {
		if a, b := ask(t, tokens(s), nil), ask(t, tokens(s), []api.Letter{}); a.text() != b.text() {
			t.Error(s, a.text(), b.text())
		}
	}
	refused(t, nil, nil, api.ErrForm)
	refused(t, []api.Tok{}, []api.Letter{}, api.ErrForm)
}

func TestCallsAreCalm(t *testing.T) {
	chance := rand.New(rand.NewSource(91))
	kept := 0
	for range 20000 {
		k := make([]api.Tok, chance.Intn(9))
		for i := range k {
			k[i] = api.Tok{Op: api.Op(chance.Intn(25))}
			if chance.Intn(40) == 0 {
				k[i] = api.Tok{Op: api.Op(chance.Intn(256)), P: uint8(chance.Intn(256))}
			}
		}
		r := ask(t, k, growTrace(chance, chance.Intn(6), 256))
		if must := kernel.Check(k); must != r.forward || must != r.backward || must != r.satErr || must != r.allErr {
			t.Fatal(told(k), must, r.text())
		}
		if r.forward == api.OK {
			kept++
		}
	}
	if kept < 300 {
		t.Error("just", kept, "are formulas")
	}
	for op := range 256 {
		for _, n := range []int{0, 1, 2, 64, 2048, 2049} {
			k := slices.Repeat([]api.Tok{{Op: api.Op(op)}}, n)
			if err := kernel.Check(k); err != api.OK {
				refused(t, k, trace("0 1 255"), err)
				continue
			}
			taken(t, k, trace("0 1 255"))
		}
	}
}

func TestAnswersHangOnArgumentsAlone(t *testing.T) {
	tell := func() string {
		var said strings.Builder
		chance := rand.New(rand.NewSource(7))
		for range 60 {
			k, tr := grow(chance, chance.Intn(30), false), growTrace(chance, chance.Intn(8), 8)
			for range 2 {
				said.WriteString(ask(t, k, tr).text() + "\n")
			}
		}
		return said.String()
	}
	must := tell()
	var all sync.WaitGroup
	for range 8 {
		all.Go(func() {
			if got := tell(); got != must {
				t.Error("another answer")
			}
		})
	}
	all.Wait()
}
