package compile_test

import (
	"math"
	"math/rand"
	"slices"
	"strconv"
	"strings"
	"sync"
	"testing"

	"rejoinder/api"
	"rejoinder/canon"
	"rejoinder/compile"
	"rejoinder/det"
	"rejoinder/guard"
	"rejoinder/mean"
	"rejoinder/parse"
	"rejoinder/show"
	"rejoinder/term"
)

// both asks Tokens and Raw, which refuse the same; what is refused has no other answers.
func both(t *testing.T, n int, l []api.Tok) (least, raw api.Auto, err api.Errno) {
	t.Helper()
	raw, err = compile.Raw(n, l)
	least, other := compile.Tokens(n, l)
	if err != other {
		t.Errorf("Raw(%d, %.80s): %d, but Tokens: %d", n, told(l), err, other)
	}
	if err != api.OK && (!empty(raw) || !empty(least)) {
		t.Errorf("an answer beside %d of %d, %.80s: %.80s, %.80s", err, n, told(l), toldAuto(raw), toldAuto(least))
	}
	return least, raw, err
}

// refused asks of what must be refused.
func refused(t *testing.T, n int, l []api.Tok, must api.Errno) {
	t.Helper()
	if _, _, err := both(t, n, l); err != must {
		t.Errorf("Tokens(%d, %d tokens, %.80s): %d, not %d", n, len(l), told(l), err, must)
	}
}

// compiled asks of what may not be refused.
func compiled(t *testing.T, n int, l []api.Tok) (least, raw api.Auto) {
	t.Helper()
	least, raw, err := both(t, n, l)
	if err != api.OK {
		t.Fatalf("Tokens(%d, %d tokens, %.80s): %d", n, len(l), told(l), err)
	}
	mayBe(t, n, l, least, raw)
	return least, raw
}

// mayBe asks what P18.3 says of all that compiles, whatever it means.
func mayBe(t *testing.T, n int, l []api.Tok, least, raw api.Auto) {
	t.Helper()
	for _, a := range []api.Auto{least, raw} {
		if err := guard.Check(a); err != api.OK || a.Props != n {
			t.Fatalf("%d, %.80s: Check tells %d of %d propositions", n, told(l), err, a.Props)
		}
		if a.Accept[0] {
			t.Fatalf("%d, %.80s: the empty trace is accepted", n, told(l))
		}
		if !metInOrder(a) {
			t.Fatalf("%d, %.80s: states are not reached, or met in another order: %.300s", n, told(l), toldAuto(a))
		}
	}
	if len(least.Accept) > len(raw.Accept) {
		t.Fatalf("%d, %.80s: %d states, and %d raw ones", n, told(l), len(least.Accept), len(raw.Accept))
	}
	if p, q, are := alikeStates(least); are {
		t.Fatalf("%d, %.80s: no trace parts %d and %d: %.300s", n, told(l), p, q, toldAuto(least))
	}
	if tr, are := unlike(least, raw); are {
		t.Fatalf("%d, %.80s: just one of both accepts %v", n, told(l), tr)
	}
}

// asTheModelSays asks Tokens and Raw, which must tell what the model says, and the layers below of it.
func asTheModelSays(t *testing.T, n int, l []api.Tok) (least, raw api.Auto, err api.Errno) {
	t.Helper()
	least, raw, err = both(t, n, l)
	a, must := modelRaw(n, l)
	if err != must || toldAuto(raw) != toldAuto(a) {
		t.Fatalf("Raw(%d, %.200s) = %.300s %d\nnot %.300s %d", n, told(l), toldAuto(raw), err, toldAuto(a), must)
	}
	if err != api.OK {
		return least, raw, err
	}
	mayBe(t, n, l, least, raw)
	if m, err := canon.Min(a); toldAuto(least) != toldAuto(m) || err != api.OK {
		t.Fatalf("Tokens(%d, %.200s) = %.300s\nnot %.300s %d", n, told(l), toldAuto(least), toldAuto(m), err)
	}
	return least, raw, err
}

// satisfies tells whether a trace satisfies a formula: the empty one satisfies none.
func satisfies(t *testing.T, l []api.Tok, tr []api.Letter) bool {
	t.Helper()
	is, err := mean.Sat(l, tr)
	if len(tr) == 0 && (is || err != api.ErrArg) || len(tr) > 0 && err != api.OK {
		t.Fatalf("mean tells %t %d of %.80s, by %d letters", is, err, told(l), len(tr))
	}
	return is
}

// asMean asks of some traces whether both automata accept them just if they satisfy the formula. It tells how many do, and how many do not.
func asMean(t *testing.T, l []api.Tok, least, raw api.Auto, some [][]api.Letter) (yes, no int) {
	t.Helper()
	for _, tr := range some {
		must := satisfies(t, l, tr)
		if is, rawIs := accepts(least, tr), accepts(raw, tr); is != must || rawIs != must {
			t.Fatalf("%.200s, by %.20v: %t, raw %t, not %t", told(l), tr, is, rawIs, must)
		}
		if must {
			yes++
		} else {
			no++
		}
	}
	return yes, no
}

// The chapter's examples, and the document's

func TestExamples(t *testing.T) {
	for _, c := range []struct {
		n       int
		formula string
		accept  []bool
		guard   []int
		nodes   []api.Node
	}{
		{1, "P0", []bool{false, false, true}, []int{0, -2, -3}, []api.Node{{P: 0, Lo: -2, Hi: -3}}},
		{1, "P0 Finally", []bool{false, true}, []int{0, -2}, []api.Node{{P: 0, Lo: -1, Hi: -2}}},
		{0, "True", []bool{false, true}, []int{-2, -2}, nil},
		{1, "False", []bool{false}, []int{-1}, nil},
	} {
		a, err := compile.Tokens(c.n, tokens(c.formula))
		if a.Props != c.n || !slices.Equal(a.Accept, c.accept) || !slices.Equal(a.Guard, c.guard) || !slices.Equal(a.Nodes, c.nodes) || err != api.OK {
			t.Error(c.formula, toldAuto(a), err)
		}
	}
	a, fault := compile.Text([]string{"p"}, "F p")
	b, err := compile.Tokens(1, tokens("P0 Finally"))
	if !canon.Same(a, b) || fault != (api.Fault{}) || err != api.OK {
		t.Error(toldAuto(a), fault)
	}
	refused(t, 1, tokens("P0 Until"), api.ErrForm)
	refused(t, 1, tokens("P1"), api.ErrArg)
	refused(t, 9, tokens("P0"), api.ErrArg)
	if a, fault := compile.Text([]string{"p"}, "p U"); !empty(a) || fault != (api.Fault{Err: api.ErrParse, At: 3}) {
		t.Error(toldAuto(a), fault)
	}
}

// ofText compiles a text that is not refused.
func ofText(t *testing.T, names, s string) api.Auto {
	t.Helper()
	a, fault := compile.Text(strings.Fields(names), s)
	if fault != (api.Fault{}) {
		t.Fatal(s, fault)
	}
	return a
}

func TestExamplesOfTheWhole(t *testing.T) {
	// To do, never, done; by p, and in both cases by q.
	until := ofText(t, "p q", "p U q")
	if toldAuto(until) != "2: 001; 2 -2 -3; 1 -2 -3; 1 -1 -3; 0 0 1" {
		t.Error(toldAuto(until))
	}
	for s, must := range map[string][2]bool{"X p": {false, true}, "N p": {true, true}} {
		a := ofText(t, "p", s)
		if accepts(a, []api.Letter{1}) != must[0] || accepts(a, []api.Letter{1, 1}) != must[1] {
			t.Error(s, toldAuto(a))
		}
	}
	if a := ofText(t, "p q", "<{p}*> q"); !canon.Same(a, until) {
		t.Error(toldAuto(a))
	}
	a, b := ofText(t, "p", "G F p"), ofText(t, "p", "F (last & p)")
	if !canon.Same(a, b) || toldAuto(a) != "1: 01; 0 0; 0 -1 -2" {
		t.Error(toldAuto(a), toldAuto(b))
	}
	if a := ofText(t, "", "F last"); toldAuto(a) != "0: 01; -2 -2" {
		t.Error(toldAuto(a))
	}
	a = ofText(t, "", "<({true} ; {true})*> last")
	if toldAuto(a) != "0: 01; -2 -1" {
		t.Error(toldAuto(a))
	}
	for long := range 20 {
		if accepts(a, make([]api.Letter, long)) != (long%2 == 1) {
			t.Error(long)
		}
	}
	// p with 63 X ahead has 65 obligations; with 62 there are 65 states: 63 that wait, one in which p stood, one in which it did not.
	refused(t, 1, tokens("P0 Next*63"), api.ErrObligations)
	_, fault := compile.Text([]string{"p"}, strings.Repeat("X ", 63)+"p")
	if fault != (api.Fault{Err: api.ErrObligations, At: -1}) {
		t.Error(fault)
	}
	a = ofText(t, "p", strings.Repeat("X ", 62)+"p")
	if len(a.Accept) != 65 || accepts(a, make([]api.Letter, 63)) || !accepts(a, append(make([]api.Letter, 62), 1)) {
		t.Error(toldAuto(a))
	}
}

// P18.1: what is refused

// notAtAll tells numbers that are no number of propositions.
var notAtAll = []int{-1, -2, -8, 9, 10, 16, 63, 64, 65, 255, 256, 257, 264, math.MinInt, math.MaxInt, math.MinInt32, math.MaxInt32, 1 << 32, 1<<32 + 1, 1<<40 + 8}

// full tells a formula of 129 states and 4,062 nodes.
func full() []api.Tok { return soon(7, "P0 P2 And P3 P6 And Or") }

// alike tells a formula for soon: three propositions hold, or none of them. Of seven such there are 129 states, the guards of which have more nodes than may be.
const alike = "P0 P3 And P5 And P0 Not P3 Not And P5 Not And Or"

// tooLong tells formulas whose kernel formulas are too long, though they are no longer and no deeper than a formula may be.
func tooLong() [][]api.Tok {
	return [][]api.Tok{
		ofKernel(2047), ofKernel(2048), ofKernel(2049), ofKernel(2100), iffs(9, "P0"), iffs(20, "P1"), iffs(61, "P0"), slices.Concat(iffs(61, "P0"), tokens("Not")),
		joined("Iff", slices.Repeat([][]api.Tok{tokens("P0")}, 64)...), slices.Concat(iffs(9, "P0"), tokens("Step Star P1 Box")), slices.Concat(iffs(9, "P0"), tokens("Test P1 Dia")),
		slices.Concat(tokens("False"), iffs(9, "P0"), tokens("And")), slices.Concat(tokens("Last"), slices.Repeat(tokens("Last Iff"), 9)),
	}
}

// tooManyStates tells formulas that are refused for their states, though each trace satisfies the last one.
func tooManyStates() [][]api.Tok {
	long := rounds(3, 7, 13)
	return [][]api.Tok{
		soon(8, "P0"), rounds(16, 17), append(rounds(15, 17), tokens("Next")...), append(rounds(3, 5, 17), tokens("Weak")...), tokens("P0 P0 Next*8 And Finally"),
		slices.Concat(long, long, tokens("Not Or")),
	}
}

// tooManyNodes tells formulas that are refused for their guards.
func tooManyNodes() [][]api.Tok {
	return [][]api.Tok{soon(7, alike), split(full(), steady(34)), append(split(full(), steady(34)), tokens("Next")...)}
}

// tooManyObligations tells formulas that are refused for their obligations, or for sets of them: at the beginning, or by a letter.
func tooManyObligations() [][]api.Tok {
	return [][]api.Tok{
		many(64, "And"), many(64, "Or"), many(70, "And"), pairs(11, "And", "Or"), append(pairs(10, "And", "Or"), tokens("True Or")...), append(many(64, "And"), tokens("Not")...),
		tokens("P0 Weak*62"), append(pairs(11, "And", "Or"), tokens("Next")...), append(pairs(11, "And", "Or"), tokens("Next*9")...), append(pairs(11, "Or", "And"), tokens("Weak Not")...),
		slices.Concat(tokens("P7 Step"), pairs(11, "And", "Or"), tokens("Box")),
	}
}

// refusals tells formulas that no step refuses ahead of their kernel formulas. With a proposition behind them they are no deeper than may be.
func refusals() [][]api.Tok {
	return slices.Concat(tooLong(), tooManyObligations(), tooManyStates(), tooManyNodes())
}

func TestHowManyPropositionsThereMayBe(t *testing.T) {
	for _, n := range notAtAll {
		for _, s := range []string{"True", "False", "P0", "P7", "More", "Last", "P0 Finally", "P0 P1 Iff"} {
			refused(t, n, tokens(s), api.ErrArg)
		}
		// It is told ahead of all else.
		for _, l := range slices.Concat([][]api.Tok{nil, {}, tokens("P0*513"), make([]api.Tok, 1000000), tokens("P0 P1"), tokens("P0 Until"), {{Op: 99}}, {{Op: api.Prop, P: 8}}, tokens("P0 Next*64")}, refusals()) {
			refused(t, n, l, api.ErrArg)
		}
	}
	for n := range 9 {
		for _, s := range []string{"True", "False", "More", "Over", "Last", "More Next", "True Finally", "True Step Star Over Dia", "Last Not Weak"} {
			if least, raw, err := asTheModelSays(t, n, tokens(s)); least.Props != n || raw.Props != n || err != api.OK {
				t.Error(n, s, least.Props, raw.Props, err)
			}
		}
	}
}

func TestTokensThatAreNoFormulas(t *testing.T) {
	for _, c := range []struct {
		must api.Errno
		of   []string
	}{
		{api.ErrForm, []string{
			"", "P0 P1", "P0 And", "And", "Next", "Not", "P0 Until", "P0 P1 Dia", "P0 Step", "P0 Step Star", "P0 Test", "P0 Step P1 Test Seq", "P0 Step P1", "P0 Step Next", "Star", "Box", "Finally", "P0 Iff",
			"Last Step P0 Dia", "More Step P0 Dia", "P0 Next Step P1 Dia", "P0 P1 Until Step P1 Dia", "P7*512",
			// Ahead of how deep they are nested, and of their propositions.
			"P0 Next*64 P1", "P7 Next*70 And", "P7 P6", "P7 Until",
		}},
		{api.ErrLong, []string{
			// Ahead of their form, of how deep they are nested, and of their propositions.
			"P0*513", "And*513", "True*257 And*256", "P7*257 And*256", "P7 Next*512", "True Not*512", "Star*1000",
		}},
		{api.ErrDeep, []string{
			// Ahead of their propositions.
			"P0 Next*64", "P7 Next*64", "True Not*64", "P7 Next*511", "True Globally*64", "P7*65 And*64", "P7 Step Star*63 True Dia", "P7*256 Or*255 Not",
		}},
	} {
		for _, s := range c.of {
			l := tokens(s)
			if term.Check(l) != c.must {
				t.Error("term tells", term.Check(l), "of", s)
			}
			for n := range 9 {
				refused(t, n, l, c.must)
			}
		}
	}
	for _, tok := range []api.Tok{{Op: api.Prop, P: 8}, {Op: api.Prop, P: 63}, {Op: api.Prop, P: 255}, {Op: api.True, P: 1}, {Op: api.And, P: 1}, {Op: 24}, {Op: 32}, {Op: 255, P: 255}} {
		for n := range 9 {
			refused(t, n, []api.Tok{tok}, api.ErrForm)
			refused(t, n, []api.Tok{{Op: api.Prop}, tok}, api.ErrForm)
			refused(t, n, []api.Tok{{Op: api.Prop}, {Op: api.Prop, P: 1}, tok}, api.ErrForm)
		}
	}
	// Ahead of kernel formulas that are too long, and of their propositions.
	deep := slices.Concat(iffs(20, "P7"), tokens("Next*50"))
	form := slices.Concat(iffs(20, "P7"), tokens("P0"))
	long := slices.Concat(iffs(40, "P7"), slices.Repeat(tokens("True And"), 300))
	for n := range 9 {
		refused(t, n, deep, api.ErrDeep)
		refused(t, n, form, api.ErrForm)
		refused(t, n, long, api.ErrLong)
	}
	refused(t, 3, make([]api.Tok, 1000000), api.ErrLong)
	// Just as many tokens, and just as deep, as may be.
	compiled(t, 1, append(joined("And", slices.Repeat([][]api.Tok{tokens("P0")}, 256)...), tokens("Not")...))
	compiled(t, 1, tokens("P0 Not*63"))
	compiled(t, 1, tokens("P0 Finally*63"))
}

func TestAPropositionFromNOn(t *testing.T) {
	for n := range 9 {
		for p := range 8 {
			prop := []api.Tok{{Op: api.Prop, P: uint8(p)}}
			for _, s := range []string{"", "Not", "Finally", "Next*3", "True Or", "False And Next", "Last Iff", "Step Star False Dia", "Test True Box", "Not Step True Step Seq More Box", "False And Step True Dia"} {
				l := slices.Concat(prop, tokens(s))
				if p >= n {
					refused(t, n, l, api.ErrArg)
					continue
				}
				if least, raw, err := asTheModelSays(t, n, l); least.Props != n || raw.Props != n || err != api.OK {
					t.Error(n, told(l), toldAuto(least), err)
				}
			}
		}
	}
	// The greatest one counts, wherever it stands.
	for _, s := range []string{"P3 P0 Until", "P0 P3 Until", "P0 P1 And P3 Or P2 Iff", "P3 Step Star P0 Dia", "P0 Step P3 Not Test Seq P1 Box", "P3 Not Not P0 Globally Imp"} {
		refused(t, 3, tokens(s), api.ErrArg)
		compiled(t, 4, tokens(s))
	}
	// It is told ahead of a kernel formula that is too long, and of all that is refused behind.
	for _, l := range refusals() {
		with := slices.Concat(l, tokens("P7 And"))
		for n := range 8 {
			refused(t, n, with, api.ErrArg)
		}
	}
	refused(t, 0, tokens("P0 Next*63"), api.ErrArg)
}

func TestAKernelFormulaThatIsTooLong(t *testing.T) {
	for n := 1917; n <= 2060; n++ {
		l := ofKernel(n)
		if size := parted(l).size; size != n || term.Check(l) != api.OK {
			t.Fatal("the test's formula has another kernel formula:", n, size)
		}
		must := api.OK
		if n > 2046 {
			must = api.ErrLong
		}
		if _, _, err := asTheModelSays(t, 2, l); err != must {
			t.Error(n, err)
		}
	}
	// Just 2,046 tokens: what is told is so of the formula.
	l := ofKernel(2046)
	least, raw := compiled(t, 2, l)
	chance := rand.New(rand.NewSource(1))
	some := traces(3, 4)
	for range 300 {
		tr := slices.Repeat([]api.Letter{3}, 15+chance.Intn(15))
		tr[chance.Intn(len(tr))] = api.Letter(chance.Intn(4))
		some = append(some, tr)
	}
	if yes, no := asMean(t, l, least, raw, some); yes < 20 || no < 20 {
		t.Error("the test reaches little:", yes, no)
	}
	for _, l := range tooLong() {
		refused(t, 2, l, api.ErrLong)
		refused(t, 8, l, api.ErrLong)
	}
	// It is told ahead of all that the construction refuses.
	long := iffs(9, "P0")
	for _, l := range slices.Concat(tooManyObligations(), tooManyStates(), tooManyNodes()) {
		refused(t, 8, slices.Concat(l, long, tokens("And")), api.ErrLong)
		refused(t, 8, slices.Concat(long, l, tokens("Or")), api.ErrLong)
	}
}

func TestTooManyObligations(t *testing.T) {
	t.Parallel()
	for _, l := range append(tooManyObligations(), tokens("P0 Next*63")) {
		refused(t, 8, l, api.ErrObligations)
		asTheModelSays(t, 8, l)
	}
	// Just as many: 63, and the one that there is a position.
	for _, l := range [][]api.Tok{
		many(63, "And"), many(63, "Or"), append(many(63, "And"), tokens("Not")...), tokens("P0 Next*62"), tokens("P0 Weak*61"), tokens("P0 Next*62 Globally"), tokens("P0 Next*61 Finally Not"),
		// Just as many sets, or what no letter leads to.
		pairs(10, "And", "Or"), append(pairs(9, "And", "Or"), tokens("True Or")...), append(pairs(10, "Or", "And"), tokens("Not")...), slices.Concat(tokens("False Step"), pairs(11, "And", "Or"), tokens("Box")),
	} {
		if _, _, err := asTheModelSays(t, 8, l); err != api.OK {
			t.Errorf("%.200s: %d", told(l), err)
		}
	}
	refused(t, 0, tokens("More Weak Next*62"), api.ErrObligations)
	if least, raw := compiled(t, 0, tokens("True Next*63")); len(least.Accept) != 65 || len(raw.Accept) != 65 {
		t.Error(len(least.Accept), len(raw.Accept))
	}
	// One more, or one fewer, where one stands that says what is said already: that there is a position.
	compiled(t, 8, append(many(63, "And"), tokens("More And")...))
	refused(t, 8, append(many(63, "And"), tokens("Over Or")...), api.ErrObligations)
}

func TestTooManyStates(t *testing.T) {
	for _, l := range tooManyStates() {
		refused(t, 8, l, api.ErrStates)
		asTheModelSays(t, 8, l)
	}
	for _, c := range []struct {
		n           int
		l           []api.Tok
		raw, states int
	}{
		{8, soon(7, "P0"), 129, 128},
		{0, rounds(15, 17), 256, 256}, {0, rounds(3, 5, 17), 256, 256}, {8, rounds(15, 17), 256, 256},
		{0, append(rounds(15, 17), tokens("Not")...), 256, 255},
		{0, slices.Concat(rounds(3, 5, 17), rounds(3, 5, 17), tokens("Not Or")), 256, 2},
		{1, tokens("P0 P0 Next*7 And Finally"), 130, 129},
	} {
		least, raw, err := asTheModelSays(t, c.n, c.l)
		if len(raw.Accept) != c.raw || len(least.Accept) != c.states || err != api.OK {
			t.Errorf("%d, %.80s: %d raw states, %d, %d", c.n, told(c.l), len(raw.Accept), len(least.Accept), err)
		}
	}
	a, _ := compiled(t, 0, rounds(15, 17))
	for long := range 1025 {
		if accepts(a, make([]api.Letter, long)) != (long > 0 && long%255 == 0) {
			t.Error(long)
		}
	}
}

func TestTooManyNodes(t *testing.T) {
	t.Parallel()
	for _, l := range tooManyNodes() {
		refused(t, 8, l, api.ErrGuards)
		asTheModelSays(t, 8, l)
	}
	// One by one.
	for n := 32; n <= 35; n++ {
		least, raw, err := asTheModelSays(t, 8, split(full(), steady(n)))
		switch {
		case n <= 33 && (err != api.OK || len(raw.Nodes) != 4063+n || len(least.Nodes) != 4063+n || len(raw.Accept) != 130+n):
			t.Error(n, err, len(raw.Nodes), len(least.Nodes), len(raw.Accept))
		case n > 33 && err != api.ErrGuards:
			t.Error(n, err)
		}
	}
}

func TestTheFirstPointIsTold(t *testing.T) {
	t.Parallel()
	states, nodes, sets := soon(8, "P0"), soon(7, alike), pairs(11, "And", "Or")
	for _, c := range []struct {
		l    []api.Tok
		must api.Errno
	}{
		// By one letter there are too many states; by the first one, or behind the second one, too many sets.
		{slices.Concat(states, sets, tokens("And")), api.ErrObligations},
		{slices.Concat(states, sets, tokens("Next And")), api.ErrObligations},
		{slices.Concat(states, sets, tokens("Next Next And")), api.ErrStates},
		{slices.Concat(states, sets, tokens("Next*9 And")), api.ErrStates},
		// Too many nodes behind some states; too many sets behind more, or fewer letters.
		{slices.Concat(nodes, sets, tokens("Next And")), api.ErrObligations},
		{slices.Concat(nodes, sets, tokens("Next*2 And")), api.ErrObligations},
		// Either behind a letter.
		{split(nodes, states), api.ErrStates},
		{split(states, nodes), api.ErrStates},
		{split(append(states, tokens("Next*9")...), nodes), api.ErrGuards},
		{split(states, sets), api.ErrObligations},
		{split(nodes, append(sets, tokens("Next*40")...)), api.ErrGuards},
		{split(append(sets, tokens("Next*40")...), rounds(16, 17)), api.ErrObligations},
		{split(append(sets, tokens("Next*40")...), states), api.ErrStates},
	} {
		_, _, err := asTheModelSays(t, 8, c.l)
		if err != c.must {
			t.Errorf("%.200s: %d, not %d", told(c.l), err, c.must)
		}
	}
}

// More stands ahead of the kernel formula: it is the obligation 0, so that behind a letter with P3 the set of More and P2 stands ahead of those of the last two parts. By P2 the first leaves nothing to do; of those 513 sets are left each, which are too many together, if nothing makes them needless ahead.
func TestMoreStandsAhead(t *testing.T) {
	sets := pairs(9, "And", "Or")
	l := joined("Or",
		tokens("P3 P2 Next Until"), tokens("P2"),
		slices.Concat(tokens("P3 P2 Step"), sets, tokens("Dia Until")),
		slices.Concat(tokens("P3 P2 Step"), sets, tokens("True And Dia Until")))
	if _, _, err := asTheModelSays(t, 8, l); err != api.OK {
		t.Error(err)
	}
	if _, err := det.Of(8, slices.Concat(l, tokens("More And"))); err != api.ErrObligations {
		t.Error("the test's formula is not refused with More behind it:", err)
	}
}

// P18.1: what is told

// automata is what Tokens and Raw must tell of a formula.
type automata struct {
	n                   int
	formula, least, raw string
}

func (c automata) asks(t *testing.T) {
	t.Helper()
	least, raw := compiled(t, c.n, tokens(c.formula))
	if toldAuto(least) != c.least {
		t.Errorf("Tokens(%d, %s) = %s, not %s", c.n, c.formula, toldAuto(least), c.least)
	}
	if toldAuto(raw) != c.raw {
		t.Errorf("Raw(%d, %s) = %s, not %s", c.n, c.formula, toldAuto(raw), c.raw)
	}
	asTheModelSays(t, c.n, tokens(c.formula))
}

func TestEachKindOfToken(t *testing.T) {
	for _, c := range []automata{
		{0, "True", "0: 01; -2 -2", "0: 01; -2 -2"},
		{2, "True", "2: 01; -2 -2", "2: 01; -2 -2"},
		{0, "False", "0: 0; -1", "0: 0; -1"},
		{0, "More", "0: 01; -2 -2", "0: 01; -2 -2"},
		{0, "Over", "0: 0; -1", "0: 00; -2 -2"},
		{0, "Last", "0: 010; -2 -3 -3", "0: 010; -2 -3 -3"},
		{1, "P0", "1: 001; 0 -2 -3; 0 -2 -3", "1: 001; 0 -2 -3; 0 -2 -3"},
		{1, "P0 Not", "1: 010; 0 -2 -3; 0 -2 -3", "1: 010; 0 -2 -3; 0 -2 -3"},
		{1, "P0 Next", "1: 0001; -2 0 -3 -4; 0 -3 -4", "1: 0001; -2 0 -3 -4; 0 -3 -4"},
		{1, "P0 Weak", "1: 0101; -2 0 -3 -4; 0 -3 -4", "1: 0101; -2 0 -3 -4; 0 -3 -4"},
		{1, "P0 Finally", "1: 01; 0 -2; 0 -1 -2", "1: 001; 0 0 -3; 0 -2 -3"},
		{1, "P0 Globally", "1: 001; 0 -2 0; 0 -2 -3", "1: 001; 0 -2 0; 0 -2 -3"},
		{2, "P0 P1 And", "2: 001; 1 -2 -3; 1 -2 -3; 0 -2 0", "2: 001; 1 -2 -3; 1 -2 -3; 0 -2 0"},
		{2, "P0 P1 Or", "2: 001; 1 -2 -3; 1 -2 -3; 0 0 -3", "2: 001; 1 -2 -3; 1 -2 -3; 0 0 -3"},
		{2, "P0 P1 Imp", "2: 010; 1 -2 -3; 1 -3 -2; 0 -2 0", "2: 010; 1 -2 -3; 1 -3 -2; 0 -2 0"},
		{2, "P0 P1 Iff", "2: 010; 2 -2 -3; 1 -2 -3; 1 -3 -2; 0 0 1", "2: 010; 2 -2 -3; 1 -2 -3; 1 -3 -2; 0 0 1"},
		{2, "P0 P1 Until", "2: 001; 2 -2 -3; 1 -2 -3; 1 -1 -3; 0 0 1", "2: 0001; 2 -2 2 -4; 1 -2 -4; 1 -3 -4; 0 0 1"},
		{2, "P0 P1 Release", "2: 0011; 2 -2 2 -4; 1 -2 -3; 1 -2 -4; 0 0 1", "2: 0011; 2 -2 2 -4; 1 -2 -3; 1 -2 -4; 0 0 1"},
		{1, "P0 Step Last Dia", "1: 0001; 0 -2 -4 -2; 0 -2 -3", "1: 0001; 0 -2 -4 -2; 0 -2 -3"},
		{1, "P0 Step Star Last Box", "1: 010; 0 -3 -3; 0 -2 -3", "1: 0100; 0 -4 -4 -4; 0 -2 -3"},
		{1, "P0 Finally Globally", "1: 01; 0 0; 0 -1 -2", "1: 001; 0 0 0; 0 -2 -3"},
		{0, "Last Finally", "0: 01; -2 -2", "0: 01; -2 -2"},
		{0, "True Step True Step Seq Star Last Dia", "0: 01; -2 -1", "0: 010; -2 -3 -2"},
		{1, "Last Not P0 Imp", "1: 0110; 0 -4 -3 -4; 0 -2 -3", "1: 0110; 0 -4 -3 -4; 0 -2 -3"},
	} {
		c.asks(t)
	}
}

func TestNoProposition(t *testing.T) {
	// A trace is how long it is.
	for _, c := range []struct {
		formula string
		is      func(long int) bool
	}{
		{"True", func(long int) bool { return true }},
		{"False", func(long int) bool { return false }},
		{"Last", func(long int) bool { return long == 1 }},
		{"Last Not", func(long int) bool { return long > 1 }},
		{"True Next*5", func(long int) bool { return long > 5 }},
		{"False Weak*5", func(long int) bool { return long <= 5 }},
		{"Last Next*7", func(long int) bool { return long == 8 }},
		{"True Step True Step Seq True Step Seq Star Over Dia", func(long int) bool { return long%3 == 0 }},
		{"True Step True Step Seq True Step Seq Star Last Dia", func(long int) bool { return long%3 == 1 }},
		{"True Step True Step Seq Star Over Dia True Step True Step Seq True Step Seq Star Over Dia Iff", func(long int) bool { return (long%2 == 0) == (long%3 == 0) }},
		{"True Step True Step Seq Star Last Box", func(long int) bool { return long == 1 }},
		{"True Step True Step Seq Star More Box", func(long int) bool { return long%2 == 1 }},
		{"Over Test True Step Plus Star False Globally Dia", func(long int) bool { return true }},
	} {
		l := tokens(c.formula)
		least, raw, err := asTheModelSays(t, 0, l)
		if err != api.OK || len(least.Nodes)+len(raw.Nodes) > 0 {
			t.Fatal(c.formula, err)
		}
		for long := range 40 {
			tr := make([]api.Letter, long)
			if must := long > 0 && c.is(long); accepts(least, tr) != must || accepts(raw, tr) != must || satisfies(t, l, tr) != must {
				t.Error(c.formula, long)
			}
		}
	}
	for n := range 8 {
		refused(t, 0, []api.Tok{{Op: api.Prop, P: uint8(n)}}, api.ErrArg)
	}
}

func TestEightPropositions(t *testing.T) {
	t.Parallel()
	chance := rand.New(rand.NewSource(5))
	for _, s := range []string{
		"P0 P1 P2 P3 P4 P5 P6 P7 And*7 Next", "P0 P1 P2 P3 P4 P5 P6 P7 Or*7 Globally", "P0 P1 Iff P2 Iff P7 Iff", "P0 P1 Not And Step P2 P3 Imp Step Seq Star P4 P5 Until Dia", "P7 Step Star P6 Box P5 P4 Release And", "P0 P7 Not And P3 Next And Finally",
		"P0 P1 Or P2 Or P3 Imp P4 Weak Or Globally", "P0 P3 And P5 And P7 Not And Finally P1 P6 Or Finally Iff", "P7", "P7 Finally Not", "P0 P7 Until",
	} {
		l := tokens(s)
		least, raw, err := asTheModelSays(t, 8, l)
		if err != api.OK {
			t.Fatal(s, err)
		}
		var some [][]api.Letter
		for x := range 256 {
			some = append(some, []api.Letter{api.Letter(x)}, []api.Letter{0, api.Letter(x)}, []api.Letter{api.Letter(x), 255}, growTrace(chance, 5, 256))
		}
		if yes, no := asMean(t, l, least, raw, some); yes < 5 || no < 5 {
			t.Error("the test reaches little:", s, yes, no)
		}
	}
}

// As many propositions as one likes: those that do not stand in the formula part no letters.
func TestPropositionsThatAreNotInTheFormula(t *testing.T) {
	for _, s := range []string{"P0", "P1 Next", "P0 P2 Until", "P0 P1 Iff Globally", "P0 Step P1 Step Seq Star P0 Weak Dia", "Last", "P5 P2 Release", "P4 Step P1 Step Plus Star P4 Dia"} {
		l := tokens(s)
		low := 0
		for _, tok := range l {
			if tok.Op == api.Prop {
				low = max(low, int(tok.P)+1)
			}
		}
		least, raw := compiled(t, low, l)
		for n := low; n <= 8; n++ {
			a, b := compiled(t, n, l)
			least.Props, raw.Props = n, n
			if !canon.Same(a, least) || !canon.Same(b, raw) {
				t.Error(s, n, toldAuto(a), toldAuto(b))
			}
		}
	}
}

// P18.2

// fails asks Text, which must tell a fault.
func fails(t *testing.T, names []string, s string, must api.Fault) {
	t.Helper()
	if a, fault := compile.Text(names, s); fault != must || !empty(a) {
		t.Errorf("Text(%v, %.80s) = %.80s, %d at %d, not %d at %d", names, s, toldAuto(a), fault.Err, fault.At, must.Err, must.At)
	}
}

// asTokens asks Text, which must tell what Tokens tells of what parse reads.
func asTokens(t *testing.T, names []string, s string) (api.Auto, api.Fault) {
	t.Helper()
	a, fault := compile.Text(names, s)
	l, must := parse.Formula(names, s)
	var b api.Auto
	if must == (api.Fault{}) {
		var err api.Errno
		if b, err = compile.Tokens(len(names), l); err != api.OK {
			must = api.Fault{Err: err, At: -1}
		}
	}
	if fault != must || toldAuto(a) != toldAuto(b) {
		t.Fatalf("Text(%v, %.80s) = %.80s %v, not %.80s %v", names, s, toldAuto(a), fault, toldAuto(b), must)
	}
	return a, fault
}

// eight are as many names as may be.
var eight = strings.Fields("a b c d e f g h")

// said tells a formula as a text, by eight names.
func said(t *testing.T, l []api.Tok) string {
	t.Helper()
	s, err := show.Formula(eight, l)
	if err != api.OK {
		t.Fatalf("show tells %d of %.80s", err, told(l))
	}
	return s
}

func TestFaultsOfTexts(t *testing.T) {
	pq := []string{"p", "q"}
	// Of the names, ahead of the text's.
	for _, s := range []string{"p", "", "p &", "#", strings.Repeat(" ", 4097)} {
		fails(t, []string{"p", "p"}, s, api.Fault{Err: api.ErrThere, At: -1})
		fails(t, []string{"p", "last"}, s, api.Fault{Err: api.ErrName, At: -1})
		fails(t, []string{"p", ""}, s, api.Fault{Err: api.ErrName, At: -1})
		fails(t, append(slices.Clone(eight), "i"), s, api.Fault{Err: api.ErrLong, At: -1})
	}
	for _, c := range []struct {
		s    string
		must api.Fault
	}{
		{"p # q", api.Fault{Err: api.ErrWord, At: 2}}, {"#", api.Fault{Err: api.ErrWord}}, {"P", api.Fault{Err: api.ErrWord}},
		{"", api.Fault{Err: api.ErrParse}}, {"p q", api.Fault{Err: api.ErrParse, At: 2}}, {"(p", api.Fault{Err: api.ErrParse, At: 2}}, {"p &", api.Fault{Err: api.ErrParse, At: 3}}, {"p U", api.Fault{Err: api.ErrParse, At: 3}}, {"<p> q", api.Fault{Err: api.ErrParse, At: 1}}, {"{p}*", api.Fault{Err: api.ErrParse}},
		{"r", api.Fault{Err: api.ErrMissing}}, {"p & r &", api.Fault{Err: api.ErrMissing, At: 4}}, {"p & & r", api.Fault{Err: api.ErrParse, At: 4}},
		{"<{X p}> q", api.Fault{Err: api.ErrForm, At: -1}}, {strings.Repeat("X ", 64) + "p", api.Fault{Err: api.ErrDeep, At: -1}}, {strings.Repeat("p & ", 256) + "p", api.Fault{Err: api.ErrLong, At: -1}},
	} {
		fails(t, pq, c.s, c.must)
		asTokens(t, pq, c.s)
	}
	if _, fault := asTokens(t, pq, strings.Repeat(" ", 4096)+"p"); fault.Err != api.ErrLong {
		t.Error(fault)
	}
	// Without names there is no proposition.
	fails(t, nil, "p", api.Fault{Err: api.ErrMissing})
	fails(t, []string{}, "true & p", api.Fault{Err: api.ErrMissing, At: 7})
}

func TestTextsThatTokensRefuses(t *testing.T) {
	t.Parallel()
	for _, c := range []struct {
		must api.Errno
		of   [][]api.Tok
	}{
		{api.ErrLong, tooLong()}, {api.ErrObligations, tooManyObligations()}, {api.ErrStates, tooManyStates()}, {api.ErrGuards, tooManyNodes()},
	} {
		for _, l := range c.of {
			fails(t, eight, said(t, l), api.Fault{Err: c.must, At: -1})
		}
	}
	fails(t, []string{"p"}, strings.Repeat("p <-> ", 9)+"p", api.Fault{Err: api.ErrLong, At: -1})
	fails(t, []string{"p"}, strings.Repeat("N ", 62)+"p", api.Fault{Err: api.ErrObligations, At: -1})
	fails(t, []string{"p"}, "F (p & X X X X X X X X p)", api.Fault{Err: api.ErrStates, At: -1})
	// Just within.
	for _, l := range [][]api.Tok{ofKernel(2046), many(63, "Or"), rounds(15, 17), split(full(), steady(33))} {
		a, fault := compile.Text(eight, said(t, l))
		if b, err := compile.Tokens(8, l); fault != (api.Fault{}) || err != api.OK || !canon.Same(a, b) {
			t.Errorf("%.80s: %v %d", told(l), fault, err)
		}
	}
}

func TestTextsThatCompile(t *testing.T) {
	// Over as many propositions as there are names, whichever of them stand in the text.
	for n := range 9 {
		a, fault := asTokens(t, eight[:n], "true")
		if a.Props != n || fault != (api.Fault{}) {
			t.Error(n, a.Props, fault)
		}
		for p := range n {
			a, fault := asTokens(t, eight[:n], "G (last -> "+eight[p]+")")
			must := api.Auto{Props: n, Accept: []bool{false, true}, Guard: []int{0, 0}, Nodes: []api.Node{{P: p, Lo: -1, Hi: -2}}}
			if fault != (api.Fault{}) || !canon.Same(a, must) {
				t.Error(n, p, toldAuto(a), fault)
			}
		}
	}
	// By the names' order, not by their texts'.
	a, b := ofText(t, "p q", "p U q"), ofText(t, "q p", "q U p")
	if !canon.Same(a, b) || canon.Same(a, ofText(t, "q p", "p U q")) {
		t.Error(toldAuto(a), toldAuto(b))
	}
	for _, s := range []string{"p", "  p", "((p))", "(p ) ", "!(!p)", "p & true", "p | p & q", "<?p> true", "[?!p] false", "p U p"} {
		if a, fault := asTokens(t, []string{"p", "q"}, s); fault != (api.Fault{}) || !canon.Same(a, ofText(t, "p q", "p")) {
			t.Error(s, toldAuto(a), fault)
		}
	}
	chance := rand.New(rand.NewSource(18))
	taken := 0
	for range 300 {
		l := grow(chance, 3, 1+chance.Intn(14), false)
		s, err := show.Formula([]string{"p", "q", "r"}, l)
		if err != api.OK {
			continue
		}
		a, fault := asTokens(t, []string{"p", "q", "r"}, s)
		if b, err := compile.Tokens(3, l); !canon.Same(a, b) || fault.Err != err {
			t.Fatal(s, fault, err)
		}
		if fault == (api.Fault{}) {
			taken++
		}
		// A text that is cut somewhere, or has another byte somewhere.
		at := chance.Intn(len(s))
		asTokens(t, []string{"p", "q", "r"}, s[:at])
		asTokens(t, []string{"p", "q", "r"}, s[:at]+string("pX(&# "[chance.Intn(6)])+s[at+1:])
	}
	if taken < 100 {
		t.Error("the test reaches little:", taken)
	}
}

// P18.3

// parts tells all parts of so many tokens, by kind: plain formulas, all formulas, paths.
type parts struct{ plain, all, paths [][][]api.Tok }

// of puts each of some tokens behind each of some lists.
func of(ops string, lists ...[]api.Tok) [][]api.Tok {
	var made [][]api.Tok
	for _, op := range tokens(ops) {
		for _, l := range lists {
			made = append(made, append(slices.Clone(l), op))
		}
	}
	return made
}

// ofTwo puts each of some tokens behind each two parts that are n - 1 tokens together.
func ofTwo(n int, ops string, first, second [][][]api.Tok) [][]api.Tok {
	var made [][]api.Tok
	for k := 1; k < n-1; k++ {
		for _, a := range first[k] {
			for _, b := range second[n-1-k] {
				made = append(made, of(ops, slices.Concat(a, b))...)
			}
		}
	}
	return made
}

func (p *parts) grow(n int) {
	if n == 1 {
		p.plain = append(p.plain, of("P0 P1 True False", nil))
		p.all = append(p.all, of("P0 P1 True False Last More Over", nil))
		p.paths = append(p.paths, nil)
		return
	}
	plain := slices.Concat(of("Not", p.plain[n-1]...), ofTwo(n, "And Or Imp Iff", p.plain, p.plain))
	all := slices.Concat(of("Not Next Weak Finally Globally", p.all[n-1]...), ofTwo(n, "And Or Imp Iff Until Release", p.all, p.all), ofTwo(n, "Dia Box", p.paths, p.all))
	paths := slices.Concat(of("Step", p.plain[n-1]...), of("Test", p.all[n-1]...), of("Star", p.paths[n-1]...), ofTwo(n, "Plus Seq", p.paths, p.paths))
	p.plain, p.all, p.paths = append(p.plain, plain), append(p.all, all), append(p.paths, paths)
}

// shortFormulas tells all formulas of at most so many tokens, of two propositions.
func shortFormulas(long int) [][]api.Tok {
	p := parts{plain: make([][][]api.Tok, 1), all: make([][][]api.Tok, 1), paths: make([][][]api.Tok, 1)}
	for n := 1; n <= long; n++ {
		p.grow(n)
	}
	return slices.Concat(p.all...)
}

// example is a formula that has an automaton, and which of some traces satisfy it.
type example struct {
	l    []api.Tok
	a    api.Auto
	says string
}

// All short formulas: those that the same traces satisfy, and they alone, have the same automaton.
func TestEveryShortFormula(t *testing.T) {
	t.Parallel()
	some := traces(4, 4)
	byAuto := map[string]example{}
	var all []example
	asked := 0
	for _, l := range shortFormulas(4) {
		least, raw, err := asTheModelSays(t, 2, l)
		if err != api.OK {
			t.Fatal(told(l), err)
		}
		asked++
		asMean(t, l, least, raw, some[:85])
		text := toldAuto(least)
		if x, there := byAuto[text]; there {
			if tr, are := unlike(x.a, raw); are {
				t.Fatalf("%s and %s: %v", told(l), told(x.l), tr)
			}
			continue
		}
		var says strings.Builder
		for _, tr := range some {
			says.WriteByte(map[bool]byte{false: '0', true: '1'}[satisfies(t, l, tr)])
		}
		x := example{l, least, says.String()}
		byAuto[text] = x
		all = append(all, x)
	}
	// Of two automata that are not the same a trace is accepted by one alone, and just one of their formulas it satisfies.
	for i, x := range all {
		for _, y := range all[:i] {
			if x.says != y.says {
				continue
			}
			tr, are := unlike(x.a, y.a)
			if !are || satisfies(t, x.l, tr) == satisfies(t, y.l, tr) {
				t.Fatalf("%s and %s have not the same automaton: %v", told(x.l), told(y.l), tr)
			}
		}
	}
	if asked < 5000 || len(all) < 100 {
		t.Error("the test reaches little:", asked, len(all))
	}
}

func TestGrownFormulas(t *testing.T) {
	t.Parallel()
	refusals, accepted, not, most := map[api.Errno]int{}, 0, 0, 0
	for seed := range int64(1500) {
		chance := rand.New(rand.NewSource(seed))
		n := chance.Intn(5)
		l := grow(chance, n, 1+chance.Intn(35), false)
		switch {
		case seed%20 == 7:
			// Many letters ahead.
			l = slices.Concat(l, tokens("Next*"+strconv.Itoa(46+chance.Intn(12))), tokens("Last Weak*6 Or"))
		case seed%20 == 8 && n > 1:
			// What was some letters ahead counts.
			l = slices.Concat(l, tokens("P0 P1 Next*"+strconv.Itoa(5+chance.Intn(6))+" And Finally And"))
		case seed%20 == 9:
			// Many Iffs.
			l = slices.Concat(l, slices.Repeat(tokens("Last Iff"), 2+chance.Intn(6)))
		}
		least, raw, err := asTheModelSays(t, n, l)
		if err != api.OK {
			refusals[err]++
			continue
		}
		most = max(most, len(least.Accept))
		some := [][]api.Letter{nil}
		for range 25 {
			some = append(some, growTrace(chance, 1+chance.Intn(8), 1<<n))
		}
		yes, no := asMean(t, l, least, raw, some)
		accepted, not = accepted+yes, not+no
	}
	if refusals[api.ErrLong] < 10 || refusals[api.ErrDeep] < 5 || refusals[api.ErrObligations] < 5 || refusals[api.ErrStates] < 10 || accepted < 5000 || not < 5000 || most < 50 {
		t.Error("the test reaches little:", refusals, accepted, not, most)
	}
}

func TestLongTraces(t *testing.T) {
	t.Parallel()
	taken, accepted := 0, 0
	for seed := range int64(100) {
		chance := rand.New(rand.NewSource(900 + seed))
		l := grow(chance, 3, 4+chance.Intn(12), false)
		least, raw, err := both(t, 3, l)
		if err != api.OK {
			continue
		}
		taken++
		yes, _ := asMean(t, l, least, raw, [][]api.Letter{growTrace(chance, 200+chance.Intn(200), []int{1, 2, 8}[seed%3])})
		accepted += yes
	}
	if taken < 80 || accepted < 20 {
		t.Error("the test reaches little:", taken, accepted)
	}
	// As long as a trace may be: p at each position but the last one.
	l := tokens("P0 Last Not Iff Globally")
	least, raw := compiled(t, 1, l)
	tr := slices.Repeat([]api.Letter{1}, 1024)
	asMean(t, l, least, raw, [][]api.Letter{tr, append(tr[:1023:1023], 0)})
	if is, err := canon.Run(least, append(tr[:1023:1023], 0)); !least.Accept[is] || err != api.OK {
		t.Error(is, err)
	}
}

// laws are formulas that are satisfied at the same places: the letters f, g, h stand for formulas, r for a path.
var laws = [][2]string{
	{"f Not Not", "f"}, {"f Finally", "True f Until"}, {"f Globally", "False f Release"}, {"f Weak Not", "f Not Next"}, {"f Finally Not", "f Not Globally"},
	{"f g Until Not", "f Not g Not Release"}, {"f g And Not", "f Not g Not Or"}, {"f g Imp", "f Not g Or"}, {"f g Iff", "f g Imp g f Imp And"}, {"f g Iff Not", "f g Not Iff"}, {"f g And", "g f And"}, {"f g And h And", "f g h And And"}, {"f g h Or And", "f g And f h And Or"},
	{"r f Dia Not", "r f Not Box"}, {"r Star f Dia", "f r r Star f Dia Dia Or"}, {"r r Seq f Box", "r r f Box Box"}, {"r f g Or Dia", "r f Dia r g Dia Or"}, {"f Test g Dia", "f g And"}, {"f Test g Box", "f g Imp"}, {"r Star Star f Dia", "r Star f Dia"}, {"r r Plus f Dia", "r f Dia"},
	{"f Finally Finally", "f Finally"}, {"f f Until", "f Finally f And"}, {"f More Imp", "f Over And Not"}, {"f Next g Next And", "f g And Next"}, {"f Next f Weak Not Or", "f Next f Not Next Or"},
}

// atPositions are such as are satisfied at the same positions, but not at the end.
var atPositions = [][2]string{
	{"Last", "True Next Not"}, {"f g Until", "g f f g Until Next And Or"}, {"f g Release", "g f f g Release Weak Or And"}, {"f Finally", "f f Finally Next Or"}, {"True Step f Dia", "f Next True Step Over f And Dia Or"}, {"More", "True"}, {"f Globally Finally", "Last f And Finally"}, {"f Finally Globally", "Last f And Finally"}, {"Last Finally", "True"}, {"f Test True Dia", "f"}, {"Over f And", "False"},
}

// spelt writes a law out.
func spelt(law string, with map[string][]api.Tok) []api.Tok {
	var l []api.Tok
	for _, word := range strings.Fields(law) {
		if f, there := with[word]; there {
			l = append(l, f...)
		} else {
			l = append(l, tokens(word)...)
		}
	}
	return l
}

func TestFormulasThatTheSameTracesSatisfy(t *testing.T) {
	t.Parallel()
	taken := 0
	same := func(n int, one, other []api.Tok) {
		a, _, err := both(t, n, one)
		b, _, otherErr := both(t, n, other)
		if err != api.OK || otherErr != api.OK {
			return
		}
		taken++
		if toldAuto(a) != toldAuto(b) || !canon.Same(a, b) {
			t.Fatalf("%s and %s: %s, %s", told(one), told(other), toldAuto(a), toldAuto(b))
		}
	}
	for seed := range int64(12) {
		chance := rand.New(rand.NewSource(seed))
		n := 1 + chance.Intn(3)
		with := map[string][]api.Tok{}
		for _, name := range []string{"f", "g", "h"} {
			with[name] = grow(chance, n, 1+chance.Intn(5), false)
		}
		with["r"] = growPath(chance, n, 2+chance.Intn(4))
		for _, law := range append(slices.Clone(laws), atPositions...) {
			same(n, spelt(law[0], with), spelt(law[1], with))
		}
		// What is satisfied at the same places may stand for the other one anywhere.
		for _, law := range laws {
			for _, about := range []string{"x Next", "x Globally P0 And", "True Step Star x Dia", "x Test True Step Seq Star Over Dia", "P0 x Until"} {
				same(n, spelt(about, map[string][]api.Tok{"x": spelt(law[0], with)}), spelt(about, map[string][]api.Tok{"x": spelt(law[1], with)}))
			}
		}
	}
	if taken < 1500 {
		t.Error("the test reaches little:", taken)
	}
}

// The negation is accepted just where the formula is not: but for the empty trace.
func TestNegations(t *testing.T) {
	t.Parallel()
	taken := 0
	some := traces(4, 4)
	for seed := range int64(200) {
		chance := rand.New(rand.NewSource(300 + seed))
		l := grow(chance, 2, 1+chance.Intn(15), false)
		a, _, err := both(t, 2, l)
		b, _, other := both(t, 2, append(slices.Clone(l), tokens("Not")...))
		if err != api.OK || other != api.OK {
			continue
		}
		taken++
		for _, tr := range some {
			if is, not := accepts(a, tr), accepts(b, tr); is && not || !is && !not && len(tr) > 0 {
				t.Fatal(told(l), tr, is, not)
			}
		}
		if c, _, err := both(t, 2, slices.Concat(l, l, tokens("Not Or"))); err == api.OK && toldAuto(c) != "2: 01; -2 -2" {
			t.Error(told(l), toldAuto(c))
		}
		if c, _, err := both(t, 2, slices.Concat(l, l, tokens("Not And"))); err == api.OK && toldAuto(c) != "2: 0; -1" {
			t.Error(told(l), toldAuto(c))
		}
	}
	if taken < 150 {
		t.Error("the test reaches little:", taken)
	}
}

// P1, and the rules that hold everywhere

// spoil writes over a list, and over its spare room.
func spoil[T any](l []T, with T) {
	l = l[:cap(l)]
	for i := range l {
		l[i] = with
	}
}

// spoilAuto writes over all lists of an automaton.
func spoilAuto(a api.Auto) {
	spoil(a.Accept, true)
	spoil(a.Guard, 99)
	spoil(a.Nodes, api.Node{P: 99, Lo: 99, Hi: 99})
}

func TestAnswersShareNoMemory(t *testing.T) {
	for _, s := range []string{"P0 Next P1 Weak Or", "P0 P1 Until", "P0 Step Star P1 Step Seq Star P0 Dia", "P0 P1 Iff", "P0 Last Imp Globally", "P0", "True", "False"} {
		l := tokens(s)
		text, err := show.Formula([]string{"p", "q"}, l)
		if err != api.OK {
			t.Fatal(s, err)
		}
		names := []string{"p", "q"}
		least, raw := compiled(t, 2, l)
		read := ofText(t, "p q", text)
		must, mustRaw := toldAuto(least), toldAuto(raw)
		otherLeast, otherRaw := compiled(t, 2, l)
		otherRead, _ := compile.Text(names, text)
		for _, a := range []api.Auto{least, raw, read} {
			spoilAuto(a)
		}
		if told(l) != s || toldAuto(otherLeast) != must || toldAuto(otherRaw) != mustRaw || toldAuto(otherRead) != must || !slices.Equal(names, []string{"p", "q"}) {
			t.Fatal(s, "an answer shares memory")
		}
		if a, b := compiled(t, 2, l); toldAuto(a) != must || toldAuto(b) != mustRaw || toldAuto(ofText(t, "p q", text)) != must {
			t.Fatal(s, "a later answer is another one")
		}
		// What was handed in may change behind the call.
		spoil(l, api.Tok{Op: 99, P: 99})
		spoil(names, "x")
		if toldAuto(otherLeast) != must || toldAuto(otherRaw) != mustRaw || toldAuto(otherRead) != must {
			t.Fatal(s, "an answer shares memory with what was handed in")
		}
	}
}

func TestNothingHandedInIsChangedOrReadBehindItsEnd(t *testing.T) {
	room := tokens("P0 P1 Until P0 Next Iff P0 Step Star P1 Last And Dia Imp P0 Not Test Star P1 P0 Or Box And P7 Finally")
	was := slices.Clone(room)
	for i := range len(room) - 1 {
		for j := i; j < len(room)-1; j++ {
			// The spare room has tokens that would change what is told, or have it refused.
			least, raw, err := both(t, 2, room[i:j])
			a, b, must := both(t, 2, slices.Clip(slices.Clone(was[i:j])))
			if err != must || toldAuto(least) != toldAuto(a) || toldAuto(raw) != toldAuto(b) || !slices.Equal(room, was) {
				t.Fatal(told(room[i:j]), err, must, told(room))
			}
		}
	}
	names := []string{"p", "q", "p", "last"}
	a, fault := compile.Text(names[:2], "p U q")
	if !canon.Same(a, ofText(t, "p q", "p U q")) || fault != (api.Fault{}) || !slices.Equal(names, []string{"p", "q", "p", "last"}) {
		t.Error(toldAuto(a), fault, names)
	}
}

func TestNilAndEmptyAreTheSame(t *testing.T) {
	for n := range 9 {
		refused(t, n, nil, api.ErrForm)
		refused(t, n, []api.Tok{}, api.ErrForm)
	}
	a, fault := compile.Text(nil, "last")
	b, other := compile.Text([]string{}, "last")
	if !canon.Same(a, b) || a.Props != 0 || fault != (api.Fault{}) || other != (api.Fault{}) {
		t.Error(toldAuto(a), fault, toldAuto(b), other)
	}
}

func TestCallsAreCalm(t *testing.T) {
	t.Parallel()
	chance := rand.New(rand.NewSource(91))
	kept := 0
	for range 20000 {
		l := make([]api.Tok, chance.Intn(9))
		for i := range l {
			l[i] = api.Tok{Op: api.Op(chance.Intn(25))}
			if chance.Intn(40) == 0 {
				l[i] = api.Tok{Op: api.Op(chance.Intn(256)), P: uint8(chance.Intn(256))}
			}
		}
		if _, _, err := asTheModelSays(t, chance.Intn(4)-1, l); err == api.OK {
			kept++
		}
	}
	if kept < 200 {
		t.Error("just", kept, "are formulas")
	}
	for op := range 256 {
		for _, n := range []int{0, 1, 2, 64, 512, 513} {
			asTheModelSays(t, 1, slices.Repeat([]api.Tok{{Op: api.Op(op)}}, n))
		}
	}
	const bytes = "pqXNFGUR()<>[]{}?*;+&|!- \x00\xff"
	for range 5000 {
		s := make([]byte, chance.Intn(12))
		for i := range s {
			s[i] = bytes[chance.Intn(len(bytes))]
		}
		asTokens(t, []string{"p", "q"}, string(s))
	}
}

func TestAnswersHangOnArgumentsAlone(t *testing.T) {
	tell := func() string {
		var text strings.Builder
		chance := rand.New(rand.NewSource(7))
		for range 60 {
			l := grow(chance, 3, chance.Intn(20), false)
			for range 2 {
				a, err := compile.Tokens(3, l)
				b, other := compile.Raw(3, l)
				text.WriteString(toldAuto(a) + strconv.Itoa(int(err)) + toldAuto(b) + strconv.Itoa(int(other)) + "\n")
			}
			// What is refused changes nothing.
			compile.Raw(9, l)
			compile.Text([]string{"p"}, "p U")
		}
		return text.String()
	}
	must := tell()
	var all sync.WaitGroup
	for range 8 {
		all.Go(func() {
			if tell() != must {
				t.Error("another answer")
			}
		})
	}
	all.Wait()
}
