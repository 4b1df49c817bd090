package prog_test

import (
	"math"
	"math/rand"
	"slices"
	"strconv"
	"strings"
	"sync"
	"testing"

	"rejoinder/api"
	"rejoinder/kernel"
	"rejoinder/mean"
	"rejoinder/prog"
	"rejoinder/sets"
)

// made tells a prog of a kernel formula.
func made(t *testing.T, k []api.Tok) *prog.Prog {
	t.Helper()
	p, err := prog.New(k)
	if p == nil || err != api.OK {
		t.Fatalf("New of %d tokens, %.80s: %d", len(k), told(k), err)
	}
	return p
}

// of tells a prog of a kernel formula that is written out.
func of(t *testing.T, k string) *prog.Prog {
	t.Helper()
	return made(t, tokens(k))
}

// starts asks Start.
func starts(t *testing.T, p *prog.Prog, must string) {
	t.Helper()
	if got := p.Start(); !slices.Equal(got, numbers(must)) {
		t.Errorf("Start: %v, not %s", got, must)
	}
}

// knows asks Atoms.
func knows(t *testing.T, p *prog.Prog, must string) {
	t.Helper()
	if got := toldAll(p.Atoms()); got != must {
		t.Errorf("Atoms: %s, not %s", got, must)
	}
}

// steps asks Step of a list.
func steps(t *testing.T, p *prog.Prog, l string, x api.Letter, must string) {
	t.Helper()
	if got, err := p.Step(numbers(l), x); !slices.Equal(got, numbers(must)) || err != api.OK {
		t.Errorf("Step(%s; %d) = %v %d, not %s", l, x, got, err, must)
	}
}

// refuses asks Step of a list that must be refused; then nothing was met.
func refuses(t *testing.T, p *prog.Prog, l []uint64, x api.Letter, must api.Errno) {
	t.Helper()
	start, atoms := p.Start(), toldAll(p.Atoms())
	if got, err := p.Step(l, x); got != nil || err != must {
		t.Errorf("Step of %d sets, by %d = %v %d, not %d", len(l), x, got, err, must)
	}
	if got := toldAll(p.Atoms()); got != atoms || !slices.Equal(p.Start(), start) {
		t.Errorf("a refused Step met: %s, not %s", got, atoms)
	}
}

// The chapter's examples

func TestExamples(t *testing.T) {
	p := of(t, "P0 P1 Until")
	starts(t, p, "1")
	knows(t, p, "P0 P1 Until")
	steps(t, p, "1", 1, "1")
	steps(t, p, "1", 2, "0")
	steps(t, p, "1", 0, "")
	refuses(t, p, numbers("2"), 0, api.ErrArg)
	x := of(t, "P0 Next")
	steps(t, x, "1", 0, "6")
	knows(t, x, "P0 Next; More; P0")
	w, r := of(t, "P0 Weak"), of(t, "P0 P1 Release")
	if !w.Final(w.Start()) || x.Final(x.Start()) || !r.Final(r.Start()) {
		t.Error("at the end")
	}
	d := of(t, "P0 Step Star P1 Dia")
	starts(t, d, "1")
	steps(t, d, "1", 1, "1")
	steps(t, d, "1", 2, "0")
	steps(t, d, "1", 3, "0")
	knows(t, d, "P0 Step Star P1 Dia")
	for _, k := range []string{"True", "P0 Not", "True Step P0 Box"} {
		if is, err := prog.Ends(tokens(k)); !is || err != api.OK {
			t.Error(k, is, err)
		}
	}
}

// P11.1

func TestNewWritesOutWhatIsNeeded(t *testing.T) {
	for _, c := range []struct{ formula, start, atoms string }{
		{"True", "0", ""},
		{"False", "", ""},
		{"P0", "1", "P0"},
		{"P7 Not", "1", "P7 Not"},
		{"More", "1", "More"},
		{"Over", "1", "Over"},
		{"P0 Next", "1", "P0 Next"},
		{"P0 Weak", "1", "P0 Weak"},
		{"P0 P1 Until", "1", "P0 P1 Until"},
		{"P0 P1 Release", "1", "P0 P1 Release"},
		{"P0 Step P1 Dia", "1", "P0 Step P1 Dia"},
		{"P0 Test Star P1 Box", "1", "P0 Test Star P1 Box"},
		{"True Next", "1", "True Next"},
		{"False True Until", "1", "False True Until"},
		{"P0 P1 And", "3", "P0; P1"},
		{"P1 P0 And", "3", "P1; P0"},
		{"P0 P1 Or", "1 2", "P0; P1"},
		{"P0 P0 And", "1", "P0"},
		{"P0 P0 Or", "1", "P0"},
		{"P0 P0 Not And", "3", "P0; P0 Not"},
		{"P0 True And", "1", "P0"},
		{"P0 False And", "", "P0"},
		{"False P0 And", "", "P0"},
		{"P0 True Or", "0", "P0"},
		{"True P0 Or", "0", "P0"},
		{"False P0 Or", "1", "P0"},
		{"True False Or", "0", ""},
		{"True False And", "", ""},
		{"P0 P1 Or P2 And", "5 6", "P0; P1; P2"},
		{"P0 P1 P2 Or And", "3 5", "P0; P1; P2"},
		{"P0 P1 And P2 Or", "3 4", "P0; P1; P2"},
		{"P0 P1 Or P0 P2 Or And", "1 6", "P0; P1; P2"},
		{"P0 P1 And P0 Or", "1", "P0; P1"},
		{"P0 P1 And P1 P0 And Or", "3", "P0; P1"},
		{"P0 P1 Or P2 P3 Or And", "5 6 9 10", "P0; P1; P2; P3"},
		// What an obligation is made of is not met by itself.
		{"P0 P1 And Next P1 P0 Until Or", "1 2", "P0 P1 And Next; P1 P0 Until"},
		{"P0 P1 And Next P0 P1 And Next And P0 And", "3", "P0 P1 And Next; P0"},
	} {
		p := of(t, c.formula)
		for range 2 {
			starts(t, p, c.start)
			knows(t, p, c.atoms)
		}
		m, err := newModel(tokens(c.formula))
		if err != api.OK {
			t.Fatal(c.formula, err)
		}
		same(t, p, m)
	}
}

// noKernel tells tokens that are no kernel formula's.
func noKernel() [][]api.Tok {
	var all [][]api.Tok
	for _, s := range []string{
		"", "P0 P1", "P0 And", "And", "Next", "Not", "P0 Until", "P0 P1 Dia", "P0 Step", "P0 Step Star", "P0 Test", "P0 Step P1 Test Seq", "P0 Step P1", "P0 Step Next", "Star", "Box",
		"True Not", "P0 Not Not", "P0 P1 And Not", "P0 Next Not", "Last", "P0 Finally", "P0 Globally", "P0 P1 Imp", "P0 P1 Iff", "P0 Finally Test P1 Dia", "P0 P1 Imp Step P1 Dia",
		"More Step P0 Dia", "P0 Next Step P1 Dia", "P0 P1 Until Step P1 Dia",
	} {
		all = append(all, tokens(s))
	}
	for _, tok := range []api.Tok{{Op: api.Prop, P: 8}, {Op: api.Prop, P: 255}, {Op: api.True, P: 1}, {Op: api.And, P: 1}, {Op: 24}, {Op: 32}, {Op: 255, P: 255}} {
		all = append(all, []api.Tok{tok}, []api.Tok{{Op: api.Prop}, tok}, []api.Tok{{Op: api.Prop}, {Op: api.Prop, P: 1}, tok})
	}
	return all
}

// refusedNew asks New of what must be refused.
func refusedNew(t *testing.T, k []api.Tok, must api.Errno) {
	t.Helper()
	if p, err := prog.New(k); p != nil || err != must {
		t.Errorf("New of %d tokens, %.80s: %d, not %d", len(k), told(k), err, must)
	}
}

// refusedEnds asks Ends of what must be refused.
func refusedEnds(t *testing.T, k []api.Tok, must api.Errno) {
	t.Helper()
	if is, err := prog.Ends(k); is || err != must {
		t.Errorf("Ends of %d tokens, %.80s: %t %d, not %d", len(k), told(k), is, err, must)
	}
}

func TestWhatIsNoKernelFormulaIsRefused(t *testing.T) {
	for _, k := range noKernel() {
		if kernel.Check(k) != api.ErrForm {
			t.Error("the test's tokens are a kernel formula's:", told(k))
		}
		refusedNew(t, k, api.ErrForm)
		refusedEnds(t, k, api.ErrForm)
	}
	// Too many tokens are told ahead of their form.
	for _, k := range [][]api.Tok{tokens("P0 Next*2048"), tokens("P0*2049"), tokens("And*3000"), make([]api.Tok, 1000000), append(tokens("P0 Next*2048"), api.Tok{Op: 99})} {
		refusedNew(t, k, api.ErrLong)
		refusedEnds(t, k, api.ErrLong)
	}
	refusedNew(t, tokens("P0*2048"), api.ErrForm)
	refusedEnds(t, tokens("P0*2048"), api.ErrForm)
	// And their form ahead of too many obligations.
	refusedNew(t, append(many(65, api.And), tokens("Finally")...), api.ErrForm)
	made(t, tokens("P0 Next*2047"))
	if is, err := prog.Ends(tokens("P0 Weak*2047")); !is || err != api.OK {
		t.Error(is, err)
	}
}

// different tells the n-th of many obligations that leave no others than themselves: P0 P1 Until and the like.
func different(n int) []api.Tok {
	return []api.Tok{{Op: api.Prop, P: uint8(n % 8)}, {Op: api.Prop, P: uint8(n / 8 % 8)}, {Op: []api.Op{api.Until, api.Release}[n/64]}}
}

// many tells n different obligations, joined.
func many(n int, op api.Op) []api.Tok {
	k := different(0)
	for i := 1; i < n; i++ {
		k = slices.Concat(k, different(i), []api.Tok{{Op: op}})
	}
	return k
}

func TestAsManyObligationsAsMayBe(t *testing.T) {
	for _, op := range []api.Op{api.And, api.Or} {
		for n := 60; n <= 64; n++ {
			p := made(t, many(n, op))
			if atoms := p.Atoms(); len(atoms) != n || !slices.Equal(atoms[n-1], different(n-1)) {
				t.Error(n, toldAll(atoms))
			}
			l := p.Start()
			if op == api.And && (len(l) != 1 || l[0] != math.MaxUint64>>(64-n)) || op == api.Or && (len(l) != n || l[n-1] != 1<<(n-1)) {
				t.Error(n, l)
			}
		}
		for _, n := range []int{65, 66, 100} {
			refusedNew(t, many(n, op), api.ErrObligations)
		}
		// One that was met before is no new one; one that is no obligation neither.
		for _, again := range [][]api.Tok{different(0), different(63), tokens("True"), tokens("False"), slices.Concat(different(5), different(6), tokens("Or"))} {
			p := made(t, slices.Concat(many(64, op), again, []api.Tok{{Op: op}}))
			if atoms := p.Atoms(); len(atoms) != 64 || !slices.Equal(atoms[63], different(63)) {
				t.Error(told(again), len(atoms))
			}
			refusedNew(t, slices.Concat(many(64, op), again, different(64), tokens("And And")), api.ErrObligations)
			// Even where nothing of it is asked.
			refusedNew(t, slices.Concat(many(64, op), different(64), tokens("False And Or")), api.ErrObligations)
			refusedNew(t, slices.Concat(many(64, op), different(64), tokens("True Or And")), api.ErrObligations)
		}
	}
}

// pairs tells n pairs of different obligations, one of each pair being asked.
func pairs(n int) []api.Tok {
	var k []api.Tok
	for i := range n {
		k = slices.Concat(k, different(2*i), different(2*i+1), tokens("Or"))
	}
	return append(k, tokens("And*" + strconv.Itoa(n))[1:]...)
}

func TestAsManySetsAsMayBeNeeded(t *testing.T) {
	p := made(t, pairs(10))
	if l := p.Start(); len(l) != 1024 || !sets.Check(l) || len(p.Atoms()) != 20 {
		t.Error(len(l), len(p.Atoms()))
	}
	refusedNew(t, pairs(11), api.ErrObligations)
	if kernel.Check(pairs(11)) != api.OK {
		t.Error("the test's tokens are no kernel formula's")
	}
	// 1,024 and one more: sets are counted ahead of taking the least ones.
	for _, more := range []string{"True Or", "P0 P0 Until Or", "P0 Or", "P0 P1 Or And"} {
		refusedNew(t, append(pairs(10), tokens(more)...), api.ErrObligations)
	}
	for _, none := range []string{"False Or", "True And", "P0 And", "False And"} {
		made(t, append(pairs(10), tokens(none)...))
	}
}

// P11.2

// after asks what each kind of formula leaves, from the beginning on.
func after(t *testing.T, formula string, x api.Letter, must, atoms string) {
	t.Helper()
	p := of(t, formula)
	got, err := p.Step(p.Start(), x)
	if !slices.Equal(got, numbers(must)) || err != api.OK {
		t.Errorf("Step(Start, %d) of %s = %v %d, not %s", x, formula, got, err, must)
	}
	if got := toldAll(p.Atoms()); got != atoms {
		t.Errorf("Atoms of %s, stepped by %d: %s, not %s", formula, x, got, atoms)
	}
	m, _ := newModel(tokens(formula))
	sameStep(t, of(t, formula), m, p.Start(), x)
}

func TestWhatEachKindOfFormulaLeaves(t *testing.T) {
	for x := range api.Letter(8) {
		after(t, "True", x, "0", "")
		after(t, "False", x, "", "")
		after(t, "More", x, "0", "More")
		after(t, "Over", x, "", "Over")
		after(t, "P0 Next", x, "6", "P0 Next; More; P0")
		after(t, "P0 Weak", x, "2 4", "P0 Weak; Over; P0")
		after(t, "True Next", x, "2", "True Next; More")
		after(t, "False Next", x, "", "False Next; More")
		after(t, "True Weak", x, "0", "True Weak; Over")
		after(t, "False Weak", x, "2", "False Weak; Over")
		after(t, "More Next", x, "2", "More Next; More")
		after(t, "Over Weak", x, "2", "Over Weak; Over")
		after(t, "P0 P1 And Next", x, "14", "P0 P1 And Next; More; P0; P1")
		after(t, "P0 P1 Or Next", x, "6 10", "P0 P1 Or Next; More; P0; P1")
		after(t, "P0 P1 And Weak", x, "2 12", "P0 P1 And Weak; Over; P0; P1")
		after(t, "P0 P1 Until Next", x, "6", "P0 P1 Until Next; More; P0 P1 Until")
		after(t, "P0 Next P1 Next And", x, "28", "P0 Next; P1 Next; More; P0; P1")
		after(t, "P0 Next P1 Next Or", x, "12 20", "P0 Next; P1 Next; More; P0; P1")
		// The second part ahead of the first, and then the whole.
		after(t, "P0 Next P1 Next Until", x, "6 11", "P0 Next P1 Next Until; More; P1; P0")
		after(t, "P0 Next P1 Next Release", x, "7 14", "P0 Next P1 Next Release; More; P1; P0")
		after(t, "P0 Weak P1 Next Until", x, "6 9 17", "P0 Weak P1 Next Until; More; P1; Over; P0")
		after(t, "True P0 Next P1 Weak And Until", x, "1 14 22", "True P0 Next P1 Weak And Until; More; P0; Over; P1")
		after(t, "True P0 Next P1 Weak Or Until", x, "1 6 8 16", "True P0 Next P1 Weak Or Until; More; P0; Over; P1")
		after(t, "False P0 Next P1 Weak Or Release", x, "7 9 17", "False P0 Next P1 Weak Or Release; More; P0; Over; P1")
	}
	after(t, "P0", 1, "0", "P0")
	after(t, "P0", 2, "", "P0")
	after(t, "P0 Not", 1, "", "P0 Not")
	after(t, "P0 Not", 2, "0", "P0 Not")
	after(t, "P0 P1 And", 3, "0", "P0; P1")
	after(t, "P0 P1 And", 1, "", "P0; P1")
	after(t, "P0 P1 And", 2, "", "P0; P1")
	after(t, "P0 P1 Or", 0, "", "P0; P1")
	after(t, "P0 P1 Or", 1, "0", "P0; P1")
	after(t, "P0 P1 Or", 2, "0", "P0; P1")
	for x, must := range []string{"", "1", "0", "0"} {
		after(t, "P0 P1 Until", api.Letter(x), must, "P0 P1 Until")
	}
	for x, must := range []string{"", "", "1", "0"} {
		after(t, "P0 P1 Release", api.Letter(x), must, "P0 P1 Release")
	}
	for x, must := range []string{"", "1", "1", "1"} {
		after(t, "P0 P1 Or Over Until", api.Letter(x), must, "P0 P1 Or Over Until")
	}
	for x, must := range []string{"", "", "", "0"} {
		after(t, "More P0 P1 And Release", api.Letter(x), must, "More P0 P1 And Release")
	}
}

func TestEachPropositionHasItsBit(t *testing.T) {
	for i := range 8 {
		name := "P" + strconv.Itoa(i)
		for x := range 256 {
			is := x&(1<<i) != 0
			for _, c := range []struct {
				formula string
				is      bool
			}{{name, is}, {name + " Not", !is}, {name + " Test True Dia", is}, {name + " Test False Box", !is}, {name + " Not Step True Dia", !is}, {name + " Step False Box", !is}} {
				must := ""
				if c.is {
					must = "0"
				}
				steps(t, of(t, c.formula), "1", api.Letter(x), must)
			}
		}
	}
}

func TestWhatEachKindOfPathLeavesUnderDia(t *testing.T) {
	// Step: f is met where the letter fits alone.
	after(t, "P0 Step P1 Dia", 1, "2", "P0 Step P1 Dia; P1")
	after(t, "P0 Step P1 Dia", 3, "2", "P0 Step P1 Dia; P1")
	after(t, "P0 Step P1 Dia", 2, "", "P0 Step P1 Dia")
	after(t, "P0 Step True Dia", 1, "0", "P0 Step True Dia")
	after(t, "P0 Step False Dia", 1, "", "P0 Step False Dia")
	after(t, "True Step P1 P2 Or Dia", 0, "2 4", "True Step P1 P2 Or Dia; P1; P2")
	after(t, "False Step P1 Dia", 3, "", "False Step P1 Dia")
	after(t, "P0 Not P1 And Step P2 Dia", 2, "2", "P0 Not P1 And Step P2 Dia; P2")
	after(t, "P0 Not P1 And Step P2 Dia", 3, "", "P0 Not P1 And Step P2 Dia")
	after(t, "P0 P1 Or Step P2 Dia", 2, "2", "P0 P1 Or Step P2 Dia; P2")
	after(t, "P0 P1 Or Step P2 Dia", 4, "", "P0 P1 Or Step P2 Dia")
	// What f leaves here is worked out, whether a way ends here or not.
	after(t, "P0 Step P1 Next Dia", 0, "", "P0 Step P1 Next Dia; More; P1")
	after(t, "P0 Step P1 Next Dia", 1, "8", "P0 Step P1 Next Dia; More; P1; P1 Next")
	// Test: f ahead of it.
	after(t, "P0 Test P1 Dia", 3, "0", "P0 Test P1 Dia")
	after(t, "P0 Test P1 Dia", 1, "", "P0 Test P1 Dia")
	after(t, "P0 Test P1 Dia", 2, "", "P0 Test P1 Dia")
	after(t, "P0 Next Test P1 Next Dia", 0, "14", "P0 Next Test P1 Next Dia; More; P1; P0")
	after(t, "P0 Weak Test P1 Next Dia", 0, "14 22", "P0 Weak Test P1 Next Dia; More; P1; Over; P0")
	after(t, "False Test P1 Next Dia", 0, "", "False Test P1 Next Dia; More; P1")
	// Plus: the first part ahead of the second.
	after(t, "P0 Step P1 Step Plus P2 Dia", 3, "2", "P0 Step P1 Step Plus P2 Dia; P2")
	after(t, "P0 Step P1 Step Plus P2 Dia", 2, "2", "P0 Step P1 Step Plus P2 Dia; P2")
	after(t, "P0 Step P1 Step Plus P2 Dia", 4, "", "P0 Step P1 Step Plus P2 Dia")
	after(t, "P0 Step P1 Next Test Plus P2 Dia", 5, "2 12", "P0 Step P1 Next Test Plus P2 Dia; P2; More; P1")
	after(t, "P1 Next Test P0 Step Plus P2 Dia", 5, "6 8", "P1 Next Test P0 Step Plus P2 Dia; More; P1; P2")
	after(t, "P1 Next Test P0 Step Plus P2 Dia", 1, "8", "P1 Next Test P0 Step Plus P2 Dia; More; P1; P2")
	// Seq: the second part ahead of the first; what its ways need behind the letter is met.
	after(t, "P0 Step P1 Step Seq P2 Dia", 1, "2", "P0 Step P1 Step Seq P2 Dia; P1 Step P2 Dia")
	after(t, "P0 Step P1 Step Seq P2 Dia", 3, "4", "P0 Step P1 Step Seq P2 Dia; P2; P1 Step P2 Dia")
	after(t, "P0 Step P1 Step Seq P2 Dia", 2, "", "P0 Step P1 Step Seq P2 Dia; P2")
	after(t, "P0 Test P1 Step Seq P2 Dia", 3, "2", "P0 Test P1 Step Seq P2 Dia; P2")
	after(t, "P0 Test P1 Step Seq P2 Dia", 2, "", "P0 Test P1 Step Seq P2 Dia; P2")
	after(t, "P0 Step P1 Test Seq P2 Dia", 1, "2", "P0 Step P1 Test Seq P2 Dia; P1 Test P2 Dia")
	after(t, "P0 Next Test P1 Next Test Seq P2 Dia", 4, "14", "P0 Next Test P1 Next Test Seq P2 Dia; More; P1; P0")
	after(t, "True Step True Step True Step Seq Seq P0 Dia", 0, "8", "True Step True Step True Step Seq Seq P0 Dia; P0; True Step P0 Dia; True Step True Step Seq P0 Dia")
	after(t, "True Step True Step Seq True Step Seq P0 Dia", 0, "8", "True Step True Step Seq True Step Seq P0 Dia; P0; True Step P0 Dia; True Step True Step P0 Dia Dia")
	// Star: what is left here ahead.
	after(t, "P0 Step Star P1 Dia", 0, "", "P0 Step Star P1 Dia")
	after(t, "P0 Step Star P1 Next Dia", 1, "1 6", "P0 Step Star P1 Next Dia; More; P1")
	after(t, "P0 Step Star P1 Next Dia", 0, "6", "P0 Step Star P1 Next Dia; More; P1")
	after(t, "P0 Step Star P1 Step Seq P2 Dia", 1, "2", "P0 Step Star P1 Step Seq P2 Dia; P0 Step Star P1 Step P2 Dia Dia")
	after(t, "P0 Step Star P1 Step Seq P2 Dia", 2, "2", "P0 Step Star P1 Step Seq P2 Dia; P2")
}

func TestWhatEachKindOfPathLeavesUnderBox(t *testing.T) {
	after(t, "P0 Step P1 Box", 1, "2", "P0 Step P1 Box; P1")
	after(t, "P0 Step P1 Box", 3, "2", "P0 Step P1 Box; P1")
	after(t, "P0 Step P1 Box", 2, "0", "P0 Step P1 Box")
	after(t, "P0 Step True Box", 1, "0", "P0 Step True Box")
	after(t, "P0 Step False Box", 1, "", "P0 Step False Box")
	after(t, "False Step P1 Box", 3, "0", "False Step P1 Box")
	after(t, "P0 Not P1 Or Step P2 Box", 1, "0", "P0 Not P1 Or Step P2 Box")
	after(t, "P0 Step P1 Next Box", 0, "0", "P0 Step P1 Next Box; More; P1")
	after(t, "P0 Step P1 Next Box", 1, "8", "P0 Step P1 Next Box; More; P1; P1 Next")
	// Plus.
	after(t, "P0 Step P1 Step Plus P2 Box", 3, "2", "P0 Step P1 Step Plus P2 Box; P2")
	after(t, "P0 Step P1 Step Plus P2 Box", 4, "0", "P0 Step P1 Step Plus P2 Box")
	after(t, "P0 Step P1 Next Test Plus P2 Box", 1, "6 10", "P0 Step P1 Next Test Plus P2 Box; P2; Over; P1 Not")
	after(t, "P1 Next Test P0 Step Plus P2 Box", 1, "10 12", "P1 Next Test P0 Step Plus P2 Box; Over; P1 Not; P2")
	// Seq.
	after(t, "P0 Step P1 Step Seq P2 Box", 1, "2", "P0 Step P1 Step Seq P2 Box; P1 Step P2 Box")
	after(t, "P0 Step P1 Step Seq P2 Box", 3, "4", "P0 Step P1 Step Seq P2 Box; P2; P1 Step P2 Box")
	after(t, "P0 Step P1 Step Seq P2 Box", 2, "0", "P0 Step P1 Step Seq P2 Box; P2")
	after(t, "P0 Test P1 Step Seq P2 Box", 3, "2", "P0 Test P1 Step Seq P2 Box; P2")
	after(t, "P0 Test P1 Step Seq P2 Box", 2, "0", "P0 Test P1 Step Seq P2 Box; P2")
	after(t, "P0 Step P1 Test Seq P2 Box", 1, "2", "P0 Step P1 Test Seq P2 Box; P1 Test P2 Box")
	after(t, "True Step True Step Seq True Step Seq P0 Box", 0, "8", "True Step True Step Seq True Step Seq P0 Box; P0; True Step P0 Box; True Step True Step P0 Box Box")
	// Star.
	after(t, "P0 Step Star P1 Box", 1, "", "P0 Step Star P1 Box")
	after(t, "P0 Step Star P1 Box", 3, "1", "P0 Step Star P1 Box")
	after(t, "P0 Step Star P1 Box", 2, "0", "P0 Step Star P1 Box")
	after(t, "P0 Step Star P1 Next Box", 1, "7", "P0 Step Star P1 Next Box; More; P1")
	after(t, "P0 Step Star P1 Next Box", 0, "6", "P0 Step Star P1 Next Box; More; P1")
	after(t, "P0 Step Star P1 Step Seq P2 Box", 1, "2", "P0 Step Star P1 Step Seq P2 Box; P0 Step Star P1 Step P2 Box Box")
	after(t, "P0 Step Star P1 Step Seq P2 Box", 3, "6", "P0 Step Star P1 Step Seq P2 Box; P2; P0 Step Star P1 Step P2 Box Box")
}

func TestWhatATestUnderBoxLeaves(t *testing.T) {
	after(t, "P0 Test P1 Box", 1, "", "P0 Test P1 Box")
	after(t, "P0 Test P1 Box", 3, "0", "P0 Test P1 Box")
	after(t, "P0 Test P1 Box", 0, "0", "P0 Test P1 Box")
	after(t, "P0 Not Test P1 Box", 0, "", "P0 Not Test P1 Box")
	after(t, "P0 Not Test P1 Box", 1, "0", "P0 Not Test P1 Box")
	// f ahead of the negation.
	after(t, "P0 Next Test P1 Next Box", 0, "6 8 16", "P0 Next Test P1 Next Box; More; P1; Over; P0 Not")
	after(t, "P0 Weak Test P1 Next Box", 0, "6 10", "P0 Weak Test P1 Next Box; More; P1; P0 Not")
	after(t, "True Test P1 Box", 0, "", "True Test P1 Box")
	after(t, "False Test P1 Box", 0, "0", "False Test P1 Box")
	after(t, "More Test P1 Box", 0, "", "More Test P1 Box")
	after(t, "Over Test P1 Box", 0, "0", "Over Test P1 Box")
	after(t, "P0 P1 And Test False Box", 1, "0", "P0 P1 And Test False Box")
	after(t, "P0 P1 And Test False Box", 3, "", "P0 P1 And Test False Box")
	after(t, "P0 P1 Or Test False Box", 0, "0", "P0 P1 Or Test False Box")
	after(t, "P0 P1 Or Test False Box", 1, "", "P0 P1 Or Test False Box")
	after(t, "P0 P1 Until Test False Box", 0, "0", "P0 P1 Until Test False Box; P0 Not P1 Not Release")
	after(t, "P0 P1 Until Test False Box", 1, "2", "P0 P1 Until Test False Box; P0 Not P1 Not Release")
	after(t, "P0 P1 Until Test False Box", 2, "", "P0 P1 Until Test False Box; P0 Not P1 Not Release")
	after(t, "P0 P1 Release Test False Box", 2, "2", "P0 P1 Release Test False Box; P0 Not P1 Not Until")
	after(t, "P0 Step P1 Dia Test False Box", 1, "2", "P0 Step P1 Dia Test False Box; P1 Not")
	after(t, "P0 Step P1 Dia Test False Box", 0, "0", "P0 Step P1 Dia Test False Box")
	after(t, "P0 Step P1 Box Test False Box", 1, "2", "P0 Step P1 Box Test False Box; P1 Not")
	after(t, "P0 Step P1 Box Test False Box", 0, "", "P0 Step P1 Box Test False Box")
	// What stands in a path of it is not negated: a Test within a Test's Box is one under Dia.
	after(t, "P0 Next Test P1 Box Test False Box", 0, "6", "P0 Next Test P1 Box Test False Box; More; P0")
	after(t, "P0 Not Step Star P1 Dia Test False Box", 0, "2", "P0 Not Step Star P1 Dia Test False Box; P0 Not Step Star P1 Not Box")
}

func TestStarsThatGoRoundWithoutALetter(t *testing.T) {
	for _, c := range []struct {
		formula string
		left    []string // by each letter of P0, P1 and P2
	}{
		{"P0 Test Star P1 Dia", []string{"", "", "0", "0", "", "", "0", "0"}},
		{"P0 Test Star P1 Box", []string{"", "", "0", "0", "", "", "0", "0"}},
		{"False Test Star P1 Dia", []string{"", "", "0", "0", "", "", "0", "0"}},
		{"True Test Star Star P1 Box", []string{"", "", "0", "0", "", "", "0", "0"}},
		{"P0 Test P1 Step Plus Star P2 Dia", []string{"", "", "1", "1", "0", "0", "0", "0"}},
		{"P0 Test P1 Step Plus Star P2 Box", []string{"", "", "", "", "0", "0", "1", "1"}},
		{"P0 Test P1 Step Seq Star P2 Dia", []string{"", "", "", "1", "0", "0", "0", "0"}},
		{"P0 Test P1 Step Seq Star P2 Box", []string{"", "", "", "", "0", "0", "0", "1"}},
	} {
		for x, must := range c.left {
			after(t, c.formula, api.Letter(x), must, c.formula)
		}
	}
	// A path that goes round in one that goes round.
	twice := "P0 Step Star Star P1 Dia; P0 Step Star P0 Step Star Star P1 Dia Dia"
	p := of(t, "P0 Step Star Star P1 Dia")
	steps(t, p, "1", 2, "0")
	steps(t, p, "1", 0, "")
	knows(t, p, "P0 Step Star Star P1 Dia")
	steps(t, p, "1", 1, "2")
	knows(t, p, twice)
	for x, must := range []string{"", "2", "0", "0"} {
		steps(t, p, "2", api.Letter(x), must)
		knows(t, p, twice)
	}
	b := of(t, "P0 Step Star Star P1 Box")
	steps(t, b, "1", 3, "2")
	for x, must := range []string{"", "", "0", "2"} {
		steps(t, b, "2", api.Letter(x), must)
		knows(t, b, "P0 Step Star Star P1 Box; P0 Step Star P0 Step Star Star P1 Box Box")
	}
	// One round more or less: each way round has one obligation.
	s := of(t, "P0 Step Star P1 Step Star Seq Star P2 Dia")
	steps(t, s, "1", 3, "2 4")
	knows(t, s, "P0 Step Star P1 Step Star Seq Star P2 Dia; P1 Step Star P0 Step Star P1 Step Star Seq Star P2 Dia Dia; P0 Step Star P1 Step Star P0 Step Star P1 Step Star Seq Star P2 Dia Dia Dia")
	for x, must := range []string{"", "4", "2", "2 4", "0", "0", "0", "0"} {
		steps(t, s, "2", api.Letter(x), must)
		steps(t, s, "4", api.Letter(x), must)
	}
}

func TestStepGoesSetBySetAndNumberByNumber(t *testing.T) {
	const both = "P0 Next P1 Weak Or"
	p := of(t, both)
	steps(t, p, "1 2", 0, "12 16 32")
	knows(t, p, "P0 Next; P1 Weak; More; P0; Over; P1")
	p = of(t, both)
	steps(t, p, "2 1", 0, "4 8 48")
	knows(t, p, "P0 Next; P1 Weak; Over; P1; More; P0")
	// Numbers rise, however the sets stand.
	p = of(t, both)
	steps(t, p, "3", 0, "28 44")
	knows(t, p, "P0 Next; P1 Weak; More; P0; Over; P1")
	// Of lists that are not least each set is stepped, and the least ones are told.
	p = of(t, both)
	steps(t, p, "3 1", 0, "12")
	knows(t, p, "P0 Next; P1 Weak; More; P0; Over; P1")
	p = of(t, both)
	steps(t, p, "1 1 1", 0, "12")
	knows(t, p, "P0 Next; P1 Weak; More; P0")
	p = of(t, both)
	steps(t, p, "0 2", 0, "0")
	knows(t, p, "P0 Next; P1 Weak; Over; P1")
	p = of(t, both)
	steps(t, p, "2 0", 0, "0")
	knows(t, p, "P0 Next; P1 Weak; Over; P1")
	// What never is ends nothing: what stands behind it is met.
	p = of(t, "P0 P1 Next P2 Weak And And")
	steps(t, p, "7", 0, "")
	knows(t, p, "P0; P1 Next; P2 Weak; More; P1; Over; P2")
	p = of(t, "P0 P1 Next Or")
	steps(t, p, "1 2", 1, "0")
	knows(t, p, "P0; P1 Next; More; P1")
	// The list without sets, and that of the empty set.
	for _, k := range []string{both, "True", "False", "P0"} {
		p = of(t, k)
		was := toldAll(p.Atoms())
		for _, x := range []api.Letter{0, 1, 7, 255} {
			steps(t, p, "", x, "")
			steps(t, p, "0", x, "0")
			steps(t, p, "0 0", x, "0")
		}
		knows(t, p, was)
	}
}

func TestTheSameTokensAreOneObligation(t *testing.T) {
	// By New, by Step, by another one's Step, by a negation.
	p := of(t, "P0 Next P0 Next Or P0 Next And")
	starts(t, p, "1")
	knows(t, p, "P0 Next")
	steps(t, p, "1", 0, "6")
	steps(t, p, "1", 1, "6")
	steps(t, p, "6", 1, "0")
	knows(t, p, "P0 Next; More; P0")
	p = of(t, "P0 P0 Next And")
	steps(t, p, "2", 0, "5")
	knows(t, p, "P0; P0 Next; More")
	p = of(t, "P0 Next P1 Next P0 Or Next Or")
	steps(t, p, "2", 0, "12 20")
	steps(t, p, "1", 0, "20")
	knows(t, p, "P0 Next; P1 Next P0 Or Next; More; P1 Next; P0")
	p = of(t, "P0 Not P1 Not Release P0 P1 Until Test False Box And")
	starts(t, p, "3")
	steps(t, p, "2", 1, "1")
	knows(t, p, "P0 Not P1 Not Release; P0 P1 Until Test False Box")
	// The path's own formula is that which comes of going round.
	p = of(t, "P0 Step P0 Step Star P1 Dia Dia")
	steps(t, p, "1", 1, "2")
	steps(t, p, "2", 1, "2")
	knows(t, p, "P0 Step P0 Step Star P1 Dia Dia; P0 Step Star P1 Dia")
	// Unlike tokens are unlike obligations, though they say the same.
	p = of(t, "P0 P1 And Next P1 P0 And Next Or")
	starts(t, p, "1 2")
	p = of(t, "P0 Next P1 Next Or P0 Weak Or P7 Next Or P0 Next Next Or P0 P1 Until Or P0 P1 Release Or P0 Step P1 Dia Or P0 Step P1 Box Or P0 Test P1 Dia Or More Or Over Or")
	if atoms := p.Atoms(); len(atoms) != 12 || len(p.Start()) != 12 {
		t.Error(toldAll(atoms))
	}
}

func TestStepOfNumbersThatNobodyMet(t *testing.T) {
	p := of(t, "P0 Next P1 Weak Or")
	for _, l := range [][]uint64{
		{4}, {5}, {7}, {1 << 63}, {1<<63 | 1}, {math.MaxUint64}, {1, 4}, {4, 1}, {1, 2, 3, 8}, {0, 1 << 32}, {0, 1 << 31}, {1 << 62, 0}, {12},
	} {
		for _, x := range []api.Letter{0, 255} {
			refuses(t, p, l, x, api.ErrArg)
		}
	}
	knows(t, p, "P0 Next; P1 Weak")
	// What is met is known from the next call on.
	steps(t, p, "1", 0, "12")
	refuses(t, p, numbers("16"), 0, api.ErrArg)
	refuses(t, p, numbers("1 2 12 16"), 0, api.ErrArg)
	steps(t, p, "12", 1, "0")
	steps(t, p, "2", 0, "16 32")
	refuses(t, p, numbers("64"), 0, api.ErrArg)
	steps(t, p, "16 32", 2, "0")
	// Not even the first number, where there is no obligation.
	for _, k := range []string{"True", "False"} {
		for i := range 64 {
			refuses(t, of(t, k), []uint64{1 << i}, 0, api.ErrArg)
		}
	}
	// With 64 of them each number is one's.
	p = made(t, many(64, api.Or))
	for i := range 64 {
		if _, err := p.Step([]uint64{1 << i}, 0); err != api.OK {
			t.Error(i, err)
		}
	}
	if _, err := p.Step([]uint64{math.MaxUint64}, 255); err != api.OK {
		t.Error(err)
	}
	p = made(t, many(63, api.Or))
	refuses(t, p, []uint64{1 << 63}, 0, api.ErrArg)
	refuses(t, p, []uint64{math.MaxUint64}, 0, api.ErrArg)
	steps(t, p, strconv.FormatUint(1<<63-1, 10), 255, "0")
}

func TestTheFirstObligationTooMany(t *testing.T) {
	// 63 with Next, More, and P0 would be the 65th.
	p := of(t, "P0 Next*63")
	l := p.Start()
	for range 62 {
		next, err := p.Step(l, 0)
		if err != api.OK || len(next) != 1 {
			t.Fatal(next, err)
		}
		l = next
	}
	if len(p.Atoms()) != 64 {
		t.Error(len(p.Atoms()))
	}
	for range 3 {
		refuses(t, p, l, 0, api.ErrObligations)
	}
	// With one Next less all is well.
	p = of(t, "P0 Next*62")
	l = p.Start()
	for range 62 {
		next, err := p.Step(l, 0)
		if err != api.OK || len(next) != 1 {
			t.Fatal(next, err)
		}
		l = next
	}
	if atoms := p.Atoms(); len(atoms) != 64 || told(atoms[63]) != "P0" || l[0] != 1<<63|2 {
		t.Error(len(atoms), l)
	}
	if yes, err := p.Step(l, 1); !slices.Equal(yes, numbers("0")) || err != api.OK {
		t.Error(yes, err)
	}
	if no, err := p.Step(l, 0); len(no) != 0 || err != api.OK {
		t.Error(no, err)
	}
}

func TestNothingWasMetWhereStepIsRefused(t *testing.T) {
	// 62 obligations, of which the last two leave new ones: More, P0 Next, and P1 Next, which is one too many; Over, and P0.
	k := slices.Concat(many(60, api.Or), tokens("P0 Next P1 Next And Next P0 Weak Or Or"))
	for _, ahead := range [][]uint64{nil, {1}, {1, 2, 0, 4}} {
		p := made(t, k)
		if len(p.Atoms()) != 62 {
			t.Fatal(toldAll(p.Atoms()))
		}
		for range 3 {
			refuses(t, p, append(slices.Clone(ahead), 1<<60), 0, api.ErrObligations)
			refuses(t, p, append(slices.Clone(ahead), 1<<60, 1), 0, api.ErrObligations)
			refuses(t, p, append(slices.Clone(ahead), 1<<61, 1<<60), 0, api.ErrObligations)
			refuses(t, p, append(slices.Clone(ahead), 3<<60), 0, api.ErrObligations)
			refuses(t, p, append(slices.Clone(ahead), 1<<61|1<<60|1), 0, api.ErrObligations)
			refuses(t, p, []uint64{1 << 62}, 0, api.ErrArg)
			// A number that was not met is told ahead.
			refuses(t, p, []uint64{1 << 60, 1 << 62}, 0, api.ErrArg)
			if !p.Final([]uint64{1 << 61}) || p.Final([]uint64{1 << 62}) || p.Final([]uint64{1 << 63}) {
				t.Error("Final knows what a refused Step met")
			}
		}
		// What is met later has the numbers that it would have had.
		steps(t, p, strconv.FormatUint(1<<61, 10), 0, strconv.FormatUint(1<<62, 10)+" "+strconv.FormatUint(1<<63, 10))
		if atoms := p.Atoms(); len(atoms) != 64 || told(atoms[62]) != "Over" || told(atoms[63]) != "P0" {
			t.Error(toldAll(atoms))
		}
		if !p.Final([]uint64{1 << 62}) || p.Final([]uint64{1 << 63}) {
			t.Error("at the end")
		}
		refuses(t, p, []uint64{1 << 60}, 0, api.ErrObligations)
	}
}

func TestAsManySetsAsMayBeLeft(t *testing.T) {
	// Eleven obligations, each of which leaves two sets: More and the one or the other of a pair.
	var k []api.Tok
	for i := range 11 {
		k = slices.Concat(k, different(2*i), different(2*i+1), tokens("Or Next"))
	}
	k = append(k, tokens("And*10")...)
	const ten, nine, eleven = 1<<10 - 1, 1<<9 - 1, 1<<11 - 1
	p := made(t, k)
	if !slices.Equal(p.Start(), []uint64{eleven}) {
		t.Fatal(p.Start())
	}
	// And of 1,024 and 2.
	refuses(t, p, []uint64{eleven}, 0, api.ErrObligations)
	// Or of 1,024 and 1, though that has the empty set, or one of the others.
	for _, more := range [][]uint64{{ten, 0}, {0, ten}, {ten, 1}, {1, ten}, {ten, ten}, {nine, 1 << 9, ten}, {1 << 10, nine, nine | 1<<9}} {
		refuses(t, p, more, 0, api.ErrObligations)
	}
	// Nothing was met: the numbers are those of a fresh prog.
	l, err := p.Step([]uint64{ten}, 0)
	other, _ := made(t, k).Step([]uint64{ten}, 0)
	if len(l) != 1024 || !sets.Check(l) || err != api.OK || !slices.Equal(l, other) || len(p.Atoms()) != 32 {
		t.Fatal(len(l), err, len(p.Atoms()))
	}
	if told(p.Atoms()[11]) != "More" || told(p.Atoms()[12]) != "P0 P0 Until" {
		t.Error(toldAll(p.Atoms()))
	}
	// 512 and 512 are no more than 1,024.
	for _, l := range [][]uint64{{nine, nine}, {nine, ten &^ 1}, {nine, nine, nine}} {
		if got, err := p.Step(l, 0); err != api.OK || !sets.Check(got) {
			t.Error(l, err)
		}
	}
	// Nor is any number of sets that leave few.
	if got, err := p.Step(make([]uint64, 5000), 0); !slices.Equal(got, []uint64{0}) || err != api.OK {
		t.Error(got, err)
	}
	if got, err := p.Step(slices.Repeat([]uint64{1}, 5000), 0); len(got) != 2 || err != api.OK {
		t.Error(got, err)
	}
	// Within a formula.
	q := made(t, append(slices.Clone(pairs(10)), tokens("Next")...))
	if l, err := q.Step(q.Start(), 0); len(l) != 1024 || err != api.OK || len(q.Atoms()) != 22 {
		t.Error(len(l), err)
	}
	for _, s := range []string{"Weak", "True Or Next", "P0 Or Next"} {
		q = madeWith(t, pairs(10), s)
		refuses(t, q, q.Start(), 0, api.ErrObligations)
	}
	// Where a path goes round, what is left here is asked once: not by the ways that come back without a letter.
	for _, s := range []string{"Dia", "Box"} {
		q = made(t, slices.Concat(tokens("True Test Star"), pairs(10), tokens("Next "+s)))
		if l, err := q.Step(q.Start(), 0); len(l) != 1024 || err != api.OK {
			t.Error(s, len(l), err)
		}
	}
	q = made(t, append(slices.Clone(pairs(11)), tokens("Next")...))
	refuses(t, q, q.Start(), 0, api.ErrObligations)
	knows(t, q, told(pairs(11))+" Next")
}

// madeWith tells a prog of a formula with tokens behind.
func madeWith(t *testing.T, k []api.Tok, s string) *prog.Prog {
	t.Helper()
	return made(t, slices.Concat(k, tokens(s)))
}

func TestAgainstTheModel(t *testing.T) {
	refusals, most, grown := 0, 0, 0
	for seed := range int64(1500) {
		chance := rand.New(rand.NewSource(seed))
		k := grow(chance, 1+chance.Intn(40), false)
		if seed%30 == 0 {
			// Many parts, each of the one or the other.
			for range 6 + chance.Intn(12) {
				k = slices.Concat(k, grow(chance, 4+chance.Intn(8), false), grow(chance, 4+chance.Intn(8), false), tokens([]string{"Or And", "Or Next And"}[chance.Intn(2)]))
			}
		}
		m, must := newModel(k)
		p, err := prog.New(k)
		if err != must || (p == nil) != (err != api.OK) {
			t.Fatal(told(k), err, must)
		}
		if p == nil {
			refusals++
			continue
		}
		same(t, p, m)
		l := p.Start()
		for range 6 {
			next, err := sameStep(t, p, m, l, api.Letter(chance.Intn(8)))
			if err != api.OK {
				refusals++
				break
			}
			l = next
			sameStep(t, p, m, lists(chance, len(m.met)), api.Letter(chance.Intn(256)))
			most = max(most, len(l))
		}
		if slices.ContainsFunc(p.Atoms(), func(a []api.Tok) bool { return len(a) > len(k) }) {
			grown++
		}
	}
	if refusals < 5 || most < 20 || grown < 50 {
		t.Error("the test reaches little:", refusals, most, grown)
	}
}

// lists tells some sets of a few numbers below n, at times of one just above.
func lists(chance *rand.Rand, n int) []uint64 {
	var l []uint64
	if n == 0 || n < 64 && chance.Intn(10) == 0 {
		n++
	}
	for range chance.Intn(4) {
		s := uint64(0)
		for range chance.Intn(4) {
			s |= 1 << chance.Intn(n)
		}
		l = append(l, s)
	}
	return l
}

// P11.3

func TestFinal(t *testing.T) {
	p := of(t, "P0 Weak P1 Next Or")
	for l, must := range map[string]bool{
		"": false, "0": true, "1": true, "2": false, "3": false, "1 2": true, "2 1": true, "2 3": false, "2 0": true, "3 3 1": true,
		// Numbers that were not met.
		"4": false, "5": false, "4 1": true, "1 4": true, "4 0": true, "9223372036854775808": false, "9223372036854775809": false, "18446744073709551615": false, "9223372036854775808 1": true, "4294967297": false, "4 8 16": false,
	} {
		if got := p.Final(numbers(l)); got != must {
			t.Errorf("Final(%s) = %t", l, got)
		}
	}
	knows(t, p, "P0 Weak; P1 Next")
	// Once they are met they are asked.
	steps(t, p, "1 2", 0, "4 8 48")
	knows(t, p, "P0 Weak; P1 Next; Over; P0; More; P1")
	for l, must := range map[string]bool{"4": true, "5": true, "7": false, "8": false, "12": false, "16": false, "48": false, "4 8 48": true, "8 48": false, "64": false, "68": false, "63": false} {
		if got := p.Final(numbers(l)); got != must {
			t.Errorf("Final(%s) = %t", l, got)
		}
	}
	for _, k := range []string{"True", "False"} {
		p := of(t, k)
		if p.Final(nil) || p.Final([]uint64{}) || !p.Final(numbers("0")) || !p.Final(numbers("1 0")) || p.Final(numbers("1")) || p.Final(p.Start()) != (k == "True") {
			t.Error(k)
		}
	}
	p = made(t, many(64, api.And))
	if p.Final(p.Start()) || p.Final([]uint64{1 << 63}) || !p.Final([]uint64{1 << 63, 0}) {
		t.Error("64 obligations")
	}
	p = made(t, slices.Concat(many(63, api.Or), tokens("Over Or")))
	if !p.Final(p.Start()) || !p.Final([]uint64{1 << 63}) || p.Final([]uint64{1<<63 | 1}) {
		t.Error("the 64th")
	}
}

// ends are formulas, each with whether it is satisfied at the end.
var ends = map[string]bool{
	"True": true, "False": false, "More": false, "Over": true, "P0": false, "P7": false, "P0 Not": true, "P7 Not": true,
	"True Next": false, "Over Next": false, "False Weak": true, "More Weak": true, "True True Until": false, "True Over Until": false, "Over True Until": false, "False False Release": true, "More More Release": true,
	"True True And": true, "True False And": false, "False True And": false, "False False And": false, "Over P0 Not And": true, "Over P0 And": false,
	"True True Or": true, "True False Or": true, "False True Or": true, "False False Or": false, "P0 More Or": false, "P0 Over Or": true,
	// Step: no way of it begins at the end.
	"True Step True Dia": false, "P0 Not Step True Dia": false, "True Step False Box": true, "False Step False Box": true,
	"Over Test Over Dia": true, "Over Test P0 Dia": false, "More Test Over Dia": false, "More Test P0 Dia": false, "P0 Not Test Over Dia": true,
	"Over Test Over Box": true, "Over Test P0 Box": false, "More Test Over Box": true, "More Test P0 Box": true,
	"Over Test More Test Plus Over Dia": true, "More Test Over Test Plus Over Dia": true, "Over Test Over Test Plus Over Dia": true, "More Test More Test Plus Over Dia": false, "Over Test True Step Plus P0 Dia": false,
	"Over Test More Test Plus P0 Box": false, "More Test Over Test Plus P0 Box": false, "More Test True Step Plus P0 Box": true, "Over Test True Step Plus Over Box": true,
	"Over Test More Test Seq Over Dia": false, "More Test Over Test Seq Over Dia": false, "Over Test Over Test Seq Over Dia": true, "Over Test True Step Seq Over Dia": false, "True Step Over Test Seq Over Dia": false, "Over Test Over Test Seq P0 Dia": false,
	"Over Test More Test Seq P0 Box": true, "More Test Over Test Seq P0 Box": true, "Over Test Over Test Seq P0 Box": false, "Over Test Over Test Seq Over Box": true,
	"True Step Star Over Dia": true, "True Step Star P0 Dia": false, "More Test Star Over Dia": true, "Over Test Star P0 Dia": false, "False Step Star Star Over Dia": true,
	"True Step Star P0 Box": false, "True Step Star Over Box": true, "More Test Star P0 Box": false, "False Step Star Star P0 Box": false,
	"Over Test Over Dia Test P0 Not Dia": true, "True Step True Dia Test True Dia": false, "True Step False Box Test P0 Not Box": true, "True Step False Box Test P0 Box": false,
}

func TestEnds(t *testing.T) {
	for k, must := range ends {
		if is, err := prog.Ends(tokens(k)); is != must || err != api.OK {
			t.Errorf("Ends of %s: %t %d", k, is, err)
		}
		if over(tokens(k)) != must {
			t.Errorf("the test is wrong of %s", k)
		}
		p := of(t, k)
		if p.Final(p.Start()) != must {
			t.Errorf("Final of %s: %t", k, !must)
		}
	}
	for seed := range int64(3000) {
		chance := rand.New(rand.NewSource(seed))
		k := grow(chance, 1+chance.Intn(40), false)
		if is, err := prog.Ends(k); is != over(k) || err != api.OK {
			t.Fatalf("Ends of %s: %t %d", told(k), is, err)
		}
	}
	for k, must := range map[string]bool{"P0 Weak*2047": true, "P0 Next*2047": false, "True Step Star*2044 Over Dia": true, "P0*1024 Or*1023": false, "Over*1024 And*1023": true, "P0 Step Star*2044 Over Box": true} {
		if is, err := prog.Ends(tokens(k)); is != must || err != api.OK {
			t.Errorf("Ends of %s: %t %d", k, is, err)
		}
	}
	// As many obligations as one likes.
	if is, err := prog.Ends(many(100, api.And)); is || err != api.OK {
		t.Error(is, err)
	}
	if is, err := prog.Ends(pairs(32)); is || err != api.OK {
		t.Error(is, err)
	}
}

// P11.4

// traces tells all traces of at most so many letters, each of which has bits of few alone.
func traces(long int, few int) [][]api.Letter {
	all := [][]api.Letter{nil}
	begin := 0
	for range long {
		end := len(all)
		for _, tr := range all[begin:end] {
			for x := range few {
				all = append(all, append(slices.Clip(tr), api.Letter(x)))
			}
		}
		begin = end
	}
	return all
}

// satisfied steps a prog by a trace, and tells whether nothing is left to do at the end; of what is refused it tells nothing.
func satisfied(t *testing.T, p *prog.Prog, tr []api.Letter) (is, known bool) {
	t.Helper()
	l := p.Start()
	for _, x := range tr {
		next, err := p.Step(l, x)
		if err == api.ErrObligations {
			return false, false
		}
		if err != api.OK || !sets.Check(next) {
			t.Fatalf("Step(%v, %d) = %v %d", l, x, next, err)
		}
		l = next
	}
	return p.Final(l), true
}

// asMean holds a formula against what mean says of some traces, and tells of how many nothing was refused.
func asMean(t *testing.T, k []api.Tok, some [][]api.Letter) int {
	t.Helper()
	p, err := prog.New(k)
	if err != api.OK {
		if err != api.ErrObligations {
			t.Fatal(told(k), err)
		}
		return 0
	}
	n := 0
	for _, tr := range some {
		must, err := mean.At(k, tr, 0)
		if err != api.OK {
			t.Fatal(told(k), err)
		}
		is, known := satisfied(t, p, tr)
		if known && is != must {
			t.Fatalf("%s: %v is told to be %t", told(k), tr, is)
		}
		if known {
			n++
		}
	}
	return n
}

func TestTracesAsMeanSaysWrittenOut(t *testing.T) {
	some := traces(4, 4)
	for k := range ends {
		if n := asMean(t, tokens(k), some); n != len(some) {
			t.Error(k, n)
		}
	}
	for _, k := range []string{
		"P0 P1 Until", "P0 P1 Release", "P0 Next P1 Weak And", "True P0 Until", "False P0 Release", "False True P0 Until Release", "True False P0 Release Until", "P0 P1 Until P1 P0 Release And Next",
		"P0 Step Star P1 Dia", "P0 Step Star P1 Box", "P0 Step P1 Step Seq Star Over Dia", "P0 Step P1 Step Seq Star More Box", "P0 Step P1 Step Plus Star P1 Not Next Dia", "True Step True Step Seq Star False Weak Dia",
		"P0 Test P1 Step Seq Star P0 Not Dia", "P0 Test P1 Step Seq Star P0 Not Box", "P0 Step Star P1 Step Star Seq Star P1 Not Dia", "P0 Step Star Star P1 Box", "P1 Next Test P0 Step Seq Star P0 Not Dia", "P1 Next Test P0 Step Seq Star P0 Not Box",
		"P0 Step Star P1 Dia Test True Step Seq Star P0 Dia", "P0 Step Star P1 Dia Test True Step Seq Star P0 Box", "P0 Step Star P1 Box Test True Step Seq P1 Step Plus Star P0 Box",
		"P0 Step Star P1 Test Seq P0 Step Seq Star P0 Step Star P1 Box Dia", "P0 Weak Test P1 Next Test Plus True Step Seq Star Over Box",
	} {
		if n := asMean(t, tokens(k), some); n != len(some) {
			t.Error(k, n)
		}
	}
}

func TestTracesAsMeanSays(t *testing.T) {
	some := traces(3, 4)
	known := 0
	for seed := range int64(1500) {
		chance := rand.New(rand.NewSource(1000 + seed))
		known += asMean(t, grow(chance, 1+chance.Intn(30), false), some)
		var long [][]api.Letter
		for range 8 {
			tr := make([]api.Letter, chance.Intn(12))
			for i := range tr {
				tr[i] = api.Letter(chance.Intn(256))
			}
			long = append(long, tr)
		}
		asMean(t, grow(chance, 1+chance.Intn(60), false), long)
	}
	if known < 1000*len(some) {
		t.Error("the test reaches little:", known)
	}
}

func TestOtherPropositionsPartNoLetters(t *testing.T) {
	for seed := range int64(300) {
		chance := rand.New(rand.NewSource(5000 + seed))
		k := grow(chance, 1+chance.Intn(25), false)
		var in api.Letter
		for _, tok := range k {
			if tok.Op == api.Prop {
				in |= 1 << tok.P
			}
		}
		p, err := prog.New(k)
		q, _ := prog.New(k)
		if err != api.OK {
			continue
		}
		l := p.Start()
		for range 6 {
			x := api.Letter(chance.Intn(256))
			next, err := p.Step(l, x)
			other, otherErr := q.Step(l, x&in)
			if !slices.Equal(next, other) || err != otherErr || toldAll(p.Atoms()) != toldAll(q.Atoms()) {
				t.Fatalf("Step(%v; %d) of %s: %v %d, but of %d %v %d", l, x, told(k), next, err, x&in, other, otherErr)
			}
			if err != api.OK {
				break
			}
			l = next
		}
	}
}

func TestWhatStepTellsIsLeast(t *testing.T) {
	for seed := range int64(400) {
		chance := rand.New(rand.NewSource(7000 + seed))
		p, err := prog.New(grow(chance, 1+chance.Intn(30), false))
		if err != api.OK {
			continue
		}
		if !sets.Check(p.Start()) {
			t.Fatal(p.Start())
		}
		for range 10 {
			// Of any lists, least or not.
			got, err := p.Step(lists(chance, len(p.Atoms())), api.Letter(chance.Intn(8)))
			if !sets.Check(got) || err != api.OK && got != nil {
				t.Fatal(got, err)
			}
		}
	}
}

// Formulas that grow above what a kernel formula may have

func TestObligationsOfManyTokens(t *testing.T) {
	for _, c := range []struct {
		op   string
		left []string // of what comes of P0, by each letter of P0 and P1
	}{{"Dia", []string{"", "2", "0", "0"}}, {"Box", []string{"", "", "0", "2"}}} {
		for _, n := range []int{60, 70, 2044} {
			k := tokens("P0 Step Star*" + strconv.Itoa(n) + " P1 " + c.op)
			var must []api.Tok
			for i := 1; i <= n; i++ {
				must = append(must, tokens("P0 Step Star*"+strconv.Itoa(i))...)
			}
			must = append(must, tokens("P1 "+c.op+"*"+strconv.Itoa(n))...)
			p := made(t, k)
			steps(t, p, "1", 3, map[string]string{"Dia": "0", "Box": "2"}[c.op])
			atoms := p.Atoms()
			if len(atoms) != 2 || !slices.Equal(atoms[0], k) || !slices.Equal(atoms[1], must) {
				t.Fatal(n, len(atoms), len(must))
			}
			for x, left := range c.left {
				steps(t, p, "2", api.Letter(x), left)
			}
			if len(p.Atoms()) != 2 || p.Final(numbers("2")) {
				t.Error(n, len(p.Atoms()))
			}
		}
	}
}

func TestNegationsOfManyTokens(t *testing.T) {
	// P0 and P1 and P1 and so on: its negation has more tokens than a kernel formula.
	chain := tokens("P0")
	neg := tokens("P0 Not")
	for range 1021 {
		chain = append(chain, tokens("P1 And")...)
		neg = append(neg, tokens("P1 Not Or")...)
	}
	k := append(slices.Clone(chain), tokens("Test P2 Box")...)
	if _, err := kernel.Neg(chain); err != api.ErrLong || kernel.Check(k) != api.OK {
		t.Fatal("the test's formula is too short:", err)
	}
	p := made(t, k)
	for x, must := range []string{"0", "0", "0", "", "0", "0", "0", "0"} {
		steps(t, p, "1", api.Letter(x), must)
	}
	// And such a negation is an obligation as others are.
	chain = chain[:len(chain)-2]
	neg = neg[:len(neg)-3]
	k = append(slices.Clone(chain), tokens("P3 Until Test P2 Box")...)
	p = made(t, k)
	steps(t, p, "1", 3, "2")
	atoms := p.Atoms()
	if len(atoms) != 2 || !slices.Equal(atoms[1], append(slices.Clone(neg), tokens("P3 Not Release")...)) || len(atoms[1]) <= api.MaxKernel {
		t.Fatal(len(atoms), len(atoms[1]))
	}
	for x, must := range map[api.Letter]string{3: "2", 0: "0", 1: "0", 2: "0", 11: "", 8: "", 255: ""} {
		steps(t, p, "2", x, must)
	}
	if !p.Final(numbers("2")) || !p.Final(numbers("3")) {
		t.Error("at the end")
	}
}

func TestTheLongestFormulas(t *testing.T) {
	for _, k := range [][]api.Tok{
		tokens("P0 Next*2047"), tokens("P0 Weak*2047"), slices.Concat(tokens("P0*1024"), tokens("And*1023")), slices.Concat(tokens("P0"), slices.Repeat(tokens("P1 Or"), 1023)),
		slices.Concat(tokens("P0"), slices.Repeat(tokens("Test P1 Dia"), 682)), slices.Concat(tokens("P0"), slices.Repeat(tokens("Test P1 Box"), 682)),
		slices.Concat(slices.Repeat(tokens("P0 Step"), 682), tokens("Plus*681 P1 Dia")), slices.Concat(slices.Repeat(tokens("P0 Test"), 682), tokens("Seq*681 P1 Box")),
		slices.Concat(slices.Repeat(tokens("P0 Step P1 Dia Test Star"), 290), tokens("Seq*289 Over Box")),
	} {
		if kernel.Check(k) != api.OK {
			t.Fatal("the test's tokens are no kernel formula's:", len(k))
		}
		p := made(t, k)
		l := p.Start()
		for _, x := range []api.Letter{3, 1, 2, 0} {
			next, err := p.Step(l, x)
			if err != api.OK {
				t.Fatal(len(k), told(k[:4]), err)
			}
			l = next
		}
		p.Final(l)
	}
	// Each Until of it is an obligation, and each Release: all are met at the first letter.
	for _, k := range [][]api.Tok{slices.Concat(tokens("P0"), slices.Repeat(tokens("P1 Until"), 1023)), slices.Concat(tokens("P0*1024"), tokens("Release*1023"))} {
		p := made(t, k)
		refuses(t, p, p.Start(), 1, api.ErrObligations)
	}
	// And each Step of it needs one.
	p := made(t, slices.Concat(slices.Repeat(tokens("P0 Step"), 100), tokens("Seq*99 P1 Dia")))
	refuses(t, p, p.Start(), 1, api.ErrObligations)
	steps(t, p, "1", 0, "")
	if len(p.Atoms()) != 1 {
		t.Error(toldAll(p.Atoms()))
	}
}

// Rule 5

// none asks all of a prog that is none.
func none(t *testing.T, p *prog.Prog) {
	t.Helper()
	if l := p.Start(); l != nil {
		t.Errorf("Start: %v", l)
	}
	if atoms := p.Atoms(); atoms != nil {
		t.Errorf("Atoms: %s", toldAll(atoms))
	}
	for _, l := range [][]uint64{nil, {}, {0}, {1}, {1, 2}, {math.MaxUint64}, make([]uint64, 5000)} {
		for _, x := range []api.Letter{0, 1, 255} {
			if left, err := p.Step(l, x); left != nil || err != api.ErrNil {
				t.Errorf("Step of %d sets: %v %d", len(l), left, err)
			}
		}
		if p.Final(l) {
			t.Errorf("Final of %d sets", len(l))
		}
	}
}

func TestAProgThatIsNone(t *testing.T) {
	none(t, nil)
	none(t, &prog.Prog{})
	none(t, new(prog.Prog))
	var p prog.Prog
	none(t, &p)
	none(t, &[]prog.Prog{{}, {}}[1])
	var within struct{ prog.Prog }
	none(t, &within.Prog)
}

func TestACopyIsNoProg(t *testing.T) {
	p := of(t, "P0 Next")
	c := *p
	none(t, &c)
	// And what is asked of it leaves the prog as it is.
	knows(t, p, "P0 Next")
	steps(t, p, "1", 0, "6")
	none(t, &c)
	c = *p
	none(t, &c)
	knows(t, p, "P0 Next; More; P0")
}

// P1, and the rules that hold everywhere

func TestTwoProgsBesideEachOther(t *testing.T) {
	k := tokens("P0 Next P1 Weak Or")
	p, q := made(t, k), made(t, k)
	if p == q {
		t.Fatal("New answers one prog twice")
	}
	steps(t, p, "1 2", 0, "12 16 32")
	knows(t, q, "P0 Next; P1 Weak")
	refuses(t, q, numbers("4"), 0, api.ErrArg)
	steps(t, q, "2 1", 0, "4 8 48")
	knows(t, p, "P0 Next; P1 Weak; More; P0; Over; P1")
	knows(t, q, "P0 Next; P1 Weak; Over; P1; More; P0")
	if p.Final(numbers("4")) || !q.Final(numbers("4")) {
		t.Error("at the end")
	}
	full := made(t, many(64, api.Or))
	steps(t, full, "1", 0, "")
	knows(t, p, "P0 Next; P1 Weak; More; P0; Over; P1")
	steps(t, of(t, "P0 Next"), "1", 0, "6")
}

// spoil writes over a list, and over its spare room.
func spoil[T any](l []T, with T) {
	l = l[:cap(l)]
	for i := range l {
		l[i] = with
	}
}

func TestAnswersShareNoMemory(t *testing.T) {
	bad := api.Tok{Op: 99, P: 99}
	for _, k := range []string{"P0 Next P1 Weak Or", "P0 P1 Until", "P0 Step Star P1 Step Seq Star P2 Dia", "P0 P1 Release P0 Step P1 Next Box And", "True", "False"} {
		room := append(tokens(k), tokens("P7 P6 P5")...)
		p := made(t, room[:len(room)-3])
		m, _ := newModel(tokens(k))
		// What was handed in may change behind the call.
		spoil(room, bad)
		same(t, p, m)
		l := p.Start()
		for _, x := range []api.Letter{1, 3, 2, 7} {
			start, again := p.Start(), p.Start()
			spoil(start, 99)
			if !slices.Equal(again, p.Start()) {
				t.Fatal(k, again, p.Start())
			}
			same(t, p, m)
			in := slices.Clone(l)
			got, err := p.Step(in, x)
			want, must := m.step(l, x)
			if !slices.Equal(got, want) || err != must {
				t.Fatal(k, got, err, want, must)
			}
			spoil(in, 77)
			other, _ := p.Step(l, x)
			spoil(got, 99)
			if !slices.Equal(other, want) || !slices.Equal(l, l[:len(l):len(l)]) {
				t.Fatal(k, other, want)
			}
			once, _ := p.Step(l, x)
			if !slices.Equal(once, want) {
				t.Fatal(k, once, want)
			}
			atoms, others := p.Atoms(), p.Atoms()
			for i := range atoms {
				spoil(atoms[i], bad)
			}
			// No two of one answer share any.
			for i := range others {
				spoil(others[i][len(others[i]):], bad)
			}
			if toldAll(others) != strings.Join(m.met, "; ") {
				t.Fatal(k, toldAll(others))
			}
			spoil(atoms, tokens("P7"))
			same(t, p, m)
			l = want
		}
	}
}

func TestNothingHandedInIsChangedOrReadBehindItsEnd(t *testing.T) {
	room := tokens("P0 P1 Until P0 Next Or P0 Step Star P1 Over And Dia And P0 Not Test Star P1 P0 Or Box And")
	was := slices.Clone(room)
	for i := range room {
		for j := i; j <= len(room); j++ {
			// The spare room has tokens that would change what is told.
			p, err := prog.New(room[i:j])
			q, errQ := prog.New(slices.Clip(slices.Clone(room[i:j])))
			is, errIs := prog.Ends(room[i:j])
			if err != errQ || err != errIs || err != kernel.Check(was[i:j]) {
				t.Fatal(i, j, err, errQ, errIs)
			}
			if err != api.OK {
				continue
			}
			a, errA := p.Step(p.Start(), 1)
			b, errB := q.Step(q.Start(), 1)
			if !slices.Equal(a, b) || errA != errB || toldAll(p.Atoms()) != toldAll(q.Atoms()) || is != over(was[i:j]) {
				t.Fatal(i, j, a, errA, b, errB)
			}
			if !slices.Equal(room, was) {
				t.Fatal(i, j, told(room))
			}
		}
	}
	// Sets that would be refused, or change what is told, in the spare room.
	p := of(t, "P0 Next P1 Weak Or")
	l := []uint64{1, 2, 0, 1 << 63, 3}
	for i := range l {
		for j := i; j <= len(l); j++ {
			q := of(t, "P0 Next P1 Weak Or")
			must, wanted := q.Step(slices.Clip(slices.Clone(l[i:j])), 0)
			got, err := of(t, "P0 Next P1 Weak Or").Step(l[i:j], 0)
			if !slices.Equal(got, must) || err != wanted {
				t.Fatal(i, j, got, err)
			}
			spoil(got, 99)
			if p.Final(l[i:j]) != p.Final(slices.Clip(slices.Clone(l[i:j]))) {
				t.Fatal(i, j)
			}
			if !slices.Equal(l, []uint64{1, 2, 0, 1 << 63, 3}) {
				t.Fatal(i, j, l)
			}
		}
	}
}

func TestAskingChangesNothing(t *testing.T) {
	p := of(t, "P0 Next P1 Weak Or")
	for range 3 {
		p.Start()
		p.Atoms()
		for _, l := range [][]uint64{nil, {0}, {1}, {2}, {4}, {1 << 63}, {math.MaxUint64}} {
			p.Final(l)
		}
		knows(t, p, "P0 Next; P1 Weak")
		starts(t, p, "1 2")
	}
	// A step that met all there is meets nothing more.
	steps(t, p, "3", 0, "28 44")
	for range 3 {
		steps(t, p, "3", 0, "28 44")
		steps(t, p, "1 2", 0, "12 16 32")
		steps(t, p, "2 1", 0, "12 16 32")
		knows(t, p, "P0 Next; P1 Weak; More; P0; Over; P1")
		starts(t, p, "1 2")
	}
}

func TestCallsAreCalm(t *testing.T) {
	chance := rand.New(rand.NewSource(91))
	kept := 0
	for range 30000 {
		k := make([]api.Tok, chance.Intn(9))
		for i := range k {
			k[i] = api.Tok{Op: api.Op(chance.Intn(25))}
			if chance.Intn(40) == 0 {
				k[i] = api.Tok{Op: api.Op(chance.Intn(256)), P: uint8(chance.Intn(256))}
			}
		}
		p, err := prog.New(k)
		if err != kernel.Check(k) || (p == nil) != (err != api.OK) {
			t.Fatal(told(k), err)
		}
		if _, e := prog.Ends(k); e != err {
			t.Fatal(told(k), e, err)
		}
		if p == nil {
			continue
		}
		kept++
		for range 4 {
			l := make([]uint64, chance.Intn(4))
			for i := range l {
				l[i] = chance.Uint64() >> chance.Intn(65)
			}
			p.Step(l, api.Letter(chance.Intn(256)))
			p.Step(p.Start(), api.Letter(chance.Intn(256)))
			p.Final(l)
		}
	}
	if kept < 500 {
		t.Error("just", kept, "are formulas")
	}
	for op := range 256 {
		for _, n := range []int{0, 1, 2, 64, 2048, 2049} {
			k := slices.Repeat([]api.Tok{{Op: api.Op(op)}}, n)
			if _, err := prog.New(k); err != kernel.Check(k) {
				t.Fatal(op, n, err)
			}
		}
	}
	// Lists of any length.
	p := of(t, "P0 P1 Until P0 Weak Or")
	long := make([]uint64, 1<<17)
	for i := range long {
		long[i] = uint64(i % 4)
	}
	if l, err := p.Step(long, 1); !slices.Equal(l, numbers("0")) || err != api.OK {
		t.Error(l, err)
	}
	if !p.Final(long) || p.Final(slices.Repeat([]uint64{1}, 1<<17)) {
		t.Error("at the end")
	}
}

func TestAnswersHangOnArgumentsAlone(t *testing.T) {
	run := func() string {
		var said strings.Builder
		chance := rand.New(rand.NewSource(7))
		for range 60 {
			p, err := prog.New(grow(chance, chance.Intn(30), false))
			if err != api.OK {
				continue
			}
			l := p.Start()
			for range 4 {
				next, err := p.Step(l, api.Letter(chance.Intn(8)))
				if err != api.OK {
					break
				}
				l = next
				for _, s := range l {
					said.WriteString(strconv.FormatUint(s, 10) + " ")
				}
			}
			said.WriteString(toldAll(p.Atoms()) + strconv.FormatBool(p.Final(l)) + "\n")
		}
		return said.String()
	}
	must := run()
	var all sync.WaitGroup
	for range 8 {
		all.Go(func() {
			if got := run(); got != must {
				t.Error("another answer")
			}
		})
	}
	all.Wait()
}
