package lang_test

import (
	"math"
	"math/big"
	"math/rand"
	"slices"
	"strconv"
	"sync"
	"testing"

	"rejoinder/api"
	"rejoinder/both"
	"rejoinder/canon"
	"rejoinder/compile"
	"rejoinder/guard"
	"rejoinder/lang"
	"rejoinder/letter"
	"rejoinder/mean"
	"rejoinder/parse"
)

// none stands where no trace is told; the empty one is "".
const none = "none"

// some tells the automaton of the chapter's examples: p somewhere.
func some() api.Auto { return auto(1, "01", "0 -2", "0 -1 -2") }

// never tells the automaton of False.
func never(n int) api.Auto { return api.Auto{Props: n, Accept: bools("0"), Guard: []int{-1}} }

// always tells the automaton that accepts each trace, the empty one too.
func always(n int) api.Auto { return api.Auto{Props: n, Accept: bools("1"), Guard: []int{-1}} }

// accepted asks Accepts, which must tell so.
func accepted(t *testing.T, a api.Auto, tr []api.Letter, must bool) {
	t.Helper()
	if is, err := lang.Accepts(a, tr); is != must || err != api.OK {
		t.Errorf("Accepts(%.300s, %.60s) = %t %d, not %t", toldAuto(a), told(tr), is, err, must)
	}
}

// noAccepts asks Accepts, which must be refused.
func noAccepts(t *testing.T, a api.Auto, tr []api.Letter, must api.Errno) {
	t.Helper()
	if is, err := lang.Accepts(a, tr); is || err != must {
		t.Errorf("Accepts(%.300s) of %d letters = %t %d, not %d", toldAuto(a), len(tr), is, err, must)
	}
}

// tells holds a trace, or that there is none, against what must be told.
func tells(t *testing.T, call string, a api.Auto, tr []api.Letter, is bool, err api.Errno, must string) {
	t.Helper()
	good := is && told(tr) == must
	if must == none {
		good = !is && len(tr) == 0
	}
	if !good || err != api.OK {
		t.Errorf("%s of %.300s = %.60s %t %d, not %.60s", call, toldAuto(a), told(tr), is, err, must)
	}
}

// shortest asks Shortest, which must tell so.
func shortest(t *testing.T, a api.Auto, must string) {
	t.Helper()
	tr, is, err := lang.Shortest(a)
	tells(t, "Shortest", a, tr, is, err, must)
}

// missing asks Missing, which must tell so.
func missing(t *testing.T, a api.Auto, must string) {
	t.Helper()
	tr, is, err := lang.Missing(a)
	tells(t, "Missing", a, tr, is, err, must)
}

// counts asks Count, which must tell so.
func counts(t *testing.T, a api.Auto, length int, must uint64) {
	t.Helper()
	if n, err := lang.Count(a, length); n != must || err != api.OK {
		t.Errorf("Count(%.300s, %d) = %d %d, not %d", toldAuto(a), length, n, err, must)
	}
}

// noCount asks Count, which must be refused.
func noCount(t *testing.T, a api.Auto, length int, must api.Errno) {
	t.Helper()
	if n, err := lang.Count(a, length); n != 0 || err != must {
		t.Errorf("Count(%.300s, %d) = %d %d, not %d", toldAuto(a), length, n, err, must)
	}
}

// countsBig asks Count, which must tell so, or be refused, if it is too great.
func countsBig(t *testing.T, a api.Auto, length int, must *big.Int) {
	t.Helper()
	if must.IsUint64() {
		counts(t, a, length, must.Uint64())
	} else {
		noCount(t, a, length, api.ErrOver)
	}
}

// reaches asks Reach, which must tell so.
func reaches(t *testing.T, a api.Auto, must string) {
	t.Helper()
	if l, err := lang.Reach(a); told(l) != must || err != api.OK {
		t.Errorf("Reach of %.300s = %v %d, not %.300s", toldAuto(a), l, err, must)
	}
}

// lives asks Live, which must tell so.
func lives(t *testing.T, a api.Auto, must string) {
	t.Helper()
	if l, err := lang.Live(a); toldBools(l) != must || err != api.OK {
		t.Errorf("Live of %.300s = %s %d, not %.300s", toldAuto(a), toldBools(l), err, must)
	}
}

// words asks Words, which must tell so.
func words(t *testing.T, a api.Auto, most int, must string) {
	t.Helper()
	if l, err := lang.Words(a, most); toldAll(l) != must || err != api.OK {
		t.Errorf("Words(%.300s, %d) = %.300s %d, not %.300s", toldAuto(a), most, toldAll(l), err, must)
	}
}

// noWords asks Words, which must be refused.
func noWords(t *testing.T, a api.Auto, most int, must api.Errno) {
	t.Helper()
	if l, err := lang.Words(a, most); len(l) != 0 || err != must {
		t.Errorf("Words(%.300s, %d) = %d traces %d, not %d", toldAuto(a), most, len(l), err, must)
	}
}

// wordsAll asks Words, which must tell those traces, or be refused, if they are too many.
func wordsAll(t *testing.T, a api.Auto, most int, must [][]api.Letter) {
	t.Helper()
	if len(must) > 4096 {
		noWords(t, a, most, api.ErrOver)
	} else {
		words(t, a, most, toldAll(must))
	}
}

// noAuto asks all of an automaton that may not be: whatever else is asked for, this is told.
func noAuto(t *testing.T, a api.Auto) {
	t.Helper()
	if guard.Check(a) != api.ErrAuto {
		t.Errorf("%.300s may be", toldAuto(a))
	}
	for _, tr := range [][]api.Letter{nil, {}, {0}, {1, 1}, {255, 0}, make([]api.Letter, 1024), make([]api.Letter, 1025), letters("255*1025")} {
		noAccepts(t, a, tr, api.ErrAuto)
	}
	if tr, is, err := lang.Shortest(a); len(tr) != 0 || is || err != api.ErrAuto {
		t.Errorf("Shortest of %.300s = %v %t %d", toldAuto(a), tr, is, err)
	}
	if tr, is, err := lang.Missing(a); len(tr) != 0 || is || err != api.ErrAuto {
		t.Errorf("Missing of %.300s = %v %t %d", toldAuto(a), tr, is, err)
	}
	for _, n := range []int{0, 1, 3, 4, -1, 64, 1024, 1025, math.MinInt, math.MaxInt} {
		noCount(t, a, n, api.ErrAuto)
		noWords(t, a, n, api.ErrAuto)
	}
	if l, err := lang.Reach(a); len(l) != 0 || err != api.ErrAuto {
		t.Errorf("Reach of %.300s = %v %d", toldAuto(a), l, err)
	}
	if l, err := lang.Live(a); len(l) != 0 || err != api.ErrAuto {
		t.Errorf("Live of %.300s = %v %d", toldAuto(a), l, err)
	}
}

// toldOr tells a trace, or that there is none.
func toldOr(tr []api.Letter, is bool) string {
	if !is {
		return none
	}
	return told(tr)
}

// asTheModelSays asks for all but what hangs on lengths.
func asTheModelSays(t *testing.T, a api.Auto) *model {
	t.Helper()
	m := newModel(a)
	shortest(t, a, toldOr(m.search(0, true)))
	missing(t, a, toldOr(m.search(1, false)))
	reaches(t, a, told(m.reach()))
	lives(t, a, toldBools(m.live()))
	if t.Failed() {
		t.FailNow()
	}
	return m
}

// compiled tells the automaton of a formula's text.
func compiled(t *testing.T, names []string, text string) api.Auto {
	t.Helper()
	a, fault := compile.Text(names, text)
	if fault.Err != api.OK {
		t.Fatal(text, fault)
	}
	return a
}

// The chapter's examples

func TestExamples(t *testing.T) {
	a, err := compile.Tokens(1, []api.Tok{{Op: api.Prop}, {Op: api.Finally}})
	n, other := compile.Tokens(1, []api.Tok{{Op: api.False}})
	if toldAuto(a) != toldAuto(some()) || toldAuto(n) != toldAuto(never(1)) || err != api.OK || other != api.OK {
		t.Fatal(toldAuto(a), toldAuto(n), err, other)
	}
	accepted(t, a, letters("0 1"), true)
	accepted(t, a, letters("0 0"), false)
	accepted(t, a, nil, false)
	shortest(t, a, "1")
	missing(t, a, "0")
	shortest(t, n, none)
	missing(t, n, "0")
	counts(t, a, 3, 7)
	counts(t, a, 64, math.MaxUint64)
	noCount(t, a, 65, api.ErrOver)
	reaches(t, a, "0 1")
	lives(t, a, "11")
	lives(t, n, "0")
	words(t, a, 2, "(1)(0 1)(1 0)(1 1)")
	noAccepts(t, a, letters("2"), api.ErrArg)
	noCount(t, a, 1025, api.ErrArg)
	noWords(t, a, 4, api.ErrArg)
}

// P19.1: automata that may not be

// sized tells an automaton of so many states without nodes.
func sized(states, guards int) api.Auto {
	a := api.Auto{Props: 2, Accept: make([]bool, states), Guard: make([]int, guards)}
	for i := range a.Guard {
		a.Guard[i] = -1 - i%max(states, 1)
	}
	return a
}

// nodesOf tells so many nodes of the proposition 0, each another one, of 65 states or more.
func nodesOf(many int) []api.Node {
	var l []api.Node
	for i := range many {
		lo, hi := i/64, i%64
		if hi >= lo {
			hi++
		}
		l = append(l, api.Node{P: 0, Lo: -1 - lo, Hi: -1 - hi})
	}
	return l
}

func TestAutomataThatMayNotBe(t *testing.T) {
	noAuto(t, api.Auto{})
	noAuto(t, api.Auto{Props: 1})
	// Propositions.
	for _, n := range []int{-1, 9, 64, math.MinInt, math.MaxInt} {
		noAuto(t, auto(n, "1", "-1", ""))
		noAuto(t, auto(n, "10", "0 0", "0 -1 -2"))
	}
	// States and guards.
	for _, c := range [][2]int{{0, 0}, {0, 1}, {1, 0}, {1, 2}, {2, 1}, {255, 256}, {256, 255}, {256, 257}, {257, 257}, {257, 256}, {1000, 1000}} {
		noAuto(t, sized(c[0], c[1]))
	}
	// Nodes.
	a := sized(80, 80)
	a.Nodes = nodesOf(4097)
	noAuto(t, a)
	// A node's proposition.
	for _, p := range []int{-1, 1, 2, 8, math.MinInt, math.MaxInt} {
		noAuto(t, api.Auto{Props: 1, Accept: bools("01"), Guard: []int{0, 0}, Nodes: []api.Node{{P: p, Lo: -1, Hi: -2}}})
	}
	noAuto(t, auto(0, "01", "0 0", "0 -1 -2"))
	// Both sides alike.
	noAuto(t, auto(2, "01", "0 0", "0 -1 -1"))
	noAuto(t, auto(2, "01", "1 1", "1 -1 -2; 0 0 0"))
	// A side that is no state, no lesser place, or of no greater proposition.
	for _, ref := range []int{-3, -4, math.MinInt, 1, 2, 4096, math.MaxInt, 0} {
		noAuto(t, api.Auto{Props: 2, Accept: bools("01"), Guard: []int{0, 0}, Nodes: []api.Node{{P: 0, Lo: ref, Hi: -2}, {P: 1, Lo: -1, Hi: -2}}})
		noAuto(t, api.Auto{Props: 2, Accept: bools("01"), Guard: []int{0, 0}, Nodes: []api.Node{{P: 0, Lo: -2, Hi: ref}, {P: 1, Lo: -1, Hi: -2}}})
	}
	noAuto(t, auto(2, "01", "1 1", "1 -1 -2; 1 -1 0"))
	noAuto(t, auto(2, "01", "1 1", "0 -1 -2; 1 0 -1"))
	// Nodes the same.
	noAuto(t, auto(1, "01", "0 1", "0 -1 -2; 0 -1 -2"))
	// Guards.
	for _, ref := range []int{1, 2, 4096, -3, -4, math.MinInt, math.MaxInt} {
		for at := range 2 {
			a := some()
			a.Guard[at] = ref
			noAuto(t, a)
		}
	}
	// What is wrong is so too where no state comes to it.
	noAuto(t, auto(2, "01", "-1 -2", "0 -1 -1"))
	noAuto(t, auto(2, "01", "-1 -2", "2 -1 -2"))
	noAuto(t, auto(2, "01", "-1 9", ""))
}

// P19.1: Accepts

func TestAccepts(t *testing.T) {
	a := leads(2, "0110", "0 1 2 3; 3 3 2 1; 2*4; 1 0 1 0")
	for _, c := range []struct {
		by   string
		must bool
	}{
		{"", false}, {"0", false}, {"1", true}, {"2", true}, {"3", false},
		{"1 0", false}, {"1 3", true}, {"3 0", true}, {"3 1", false}, {"3 3", false},
		{"1 2", true}, {"1 2 3 3 3", true}, {"3 0 1 1 3", false}, {"0*1023 3", false}, {"0*1023 1", true}, {"3*1024", false}, {"2 1*1023", true},
	} {
		accepted(t, a, letters(c.by), c.must)
	}
	// The empty trace: as the state 0 says.
	for _, tr := range [][]api.Letter{nil, {}} {
		accepted(t, always(0), tr, true)
		accepted(t, always(8), tr, true)
		accepted(t, never(0), tr, false)
		accepted(t, leads(1, "10", "1 1; 1 1"), tr, true)
		accepted(t, leads(1, "01", "1 1; 1 1"), tr, false)
	}
	// One letter alone: how many counts.
	a = chain(0, 256, 0, 0)
	for _, many := range []int{0, 1, 2, 254, 255, 256, 1023, 1024} {
		accepted(t, a, make([]api.Letter, many), many >= 255)
	}
}

func TestAcceptsOfTracesThatMayNotBe(t *testing.T) {
	for n := range 9 {
		a := api.Auto{Props: n, Accept: bools("01"), Guard: []int{-2, -2}}
		top := api.Letter(1<<n - 1)
		for _, many := range []int{1, 2, 500, 1023, 1024} {
			tr := slices.Repeat([]api.Letter{top}, many)
			accepted(t, a, tr, true)
			if n == 8 {
				continue
			}
			for _, at := range []int{0, many / 2, many - 1} {
				for _, l := range []api.Letter{top + 1, 255, 128} {
					bad := slices.Clone(tr)
					bad[at] = l
					noAccepts(t, a, bad, api.ErrArg)
				}
			}
		}
		for _, many := range []int{1025, 1026, 2048, 65536, 65537} {
			noAccepts(t, a, make([]api.Letter, many), api.ErrLong)
			noAccepts(t, a, slices.Repeat([]api.Letter{255}, many), api.ErrLong)
		}
	}
}

func TestAcceptsOfGrownOnes(t *testing.T) {
	t.Parallel()
	chance := rand.New(rand.NewSource(1))
	met := map[api.Errno]int{}
	yes := 0
	for range 1500 {
		n := chance.Intn(5)
		a := growAuto(chance, n, 1+chance.Intn(20), 3)
		for range 5 {
			// Letters of a proposition more, at times.
			tr := growTrace(chance, n+chance.Intn(20)/19, chance.Intn(30))
			err := letter.Trace(n, tr)
			met[err]++
			if err != api.OK {
				noAccepts(t, a, tr, err)
				continue
			}
			must := accepts(a, tr)
			if must {
				yes++
			}
			accepted(t, a, tr, must)
			// By where the trace leads.
			q, _ := canon.Run(a, tr)
			accepted(t, a, tr, a.Accept[q])
		}
	}
	if met[api.OK] < 1000 || met[api.ErrArg] < 100 || yes < 1000 {
		t.Error(met, yes)
	}
}

// P19.2: Shortest and Missing

func TestShortestAndMissing(t *testing.T) {
	for _, c := range []struct {
		props        int
		accept, rows string
		short, miss  string
	}{
		// One state.
		{0, "0", "0", none, "0"},
		{0, "1", "0", "", none},
		{2, "0", "0*4", none, "0"},
		{2, "1", "0*4", "", none},
		// The empty trace is the first that may be accepted, and none that may be missing.
		{1, "10", "1 1; 1 1", "", "0"},
		{1, "01", "1 1; 1 1", "0", none},
		{1, "01", "1 1; 0 1", "0", "0 0"},
		{1, "01", "1 1; 1 0", "0", "0 1"},
		// A trace that leads back to the state 0, at once or later.
		{1, "01", "1 0; 1 1", "0", "1"},
		{0, "0111", "1; 2; 3; 0", "0", "0 0 0 0"},
		{0, "1000", "1; 2; 3; 0", "", "0"},
		{2, "011", "1 1 1 2; 1 1 2 1; 2 2 2 0", "0", "3 3"},
		// Of one length the first letter counts first, and letters rise.
		{1, "00001", "1 2; 3 3; 4 4; 3 3; 4 4", "1 0", "0"},
		{1, "00001", "1 2; 3 4; 4 4; 3 3; 4 4", "0 1", "0"},
		{2, "011", "1 2 0 0; 1*4; 2*4", "0", "2"},
		{2, "001", "0 0 0 2; 1*4; 2*4", "3", "0"},
		{2, "0001", "1 2 1 1; 1 1 1 3; 3 1 1 1; 3*4", "0 3", "0"},
		{2, "0001", "2 1 1 1; 1 1 1 3; 1 3 1 1; 3*4", "0 1", "0"},
		// A shorter one stands ahead of one with lesser letters.
		{1, "0001", "1 3; 2 2; 3 3; 3 3", "1", "0"},
		{1, "0001", "1 2; 2 2; 2 3; 3 3", "1 1", "0"},
		{1, "1110", "1 3; 2 2; 3 3; 3 3", "", "1"},
		{1, "1110", "1 2; 1 2; 2 3; 3 3", "", "1 1"},
		// Of two ways to one state the first in order.
		{1, "0001", "1 2; 3 3; 3 3; 3 3", "0 0", "0"},
		{2, "00001", "3 2 1 3; 4 3 3 3; 4 3 3 3; 3*4; 4*4", "1 0", "0"},
		// What is accepted is not reached, or what is not.
		{1, "001", "0 1; 1 0; 2 2", none, "0"},
		{1, "110", "0 1; 1 0; 2 2", "", none},
		{1, "0110", "1 2; 1 2; 2 1; 0 3", "0", none},
	} {
		a := leads(c.props, c.accept, c.rows)
		shortest(t, a, c.short)
		missing(t, a, c.miss)
		asTheModelSays(t, a)
	}
}

// turned tells an automaton in which just the other states accept.
func turned(a api.Auto) api.Auto {
	b := a
	b.Accept = nil
	for _, is := range a.Accept {
		b.Accept = append(b.Accept, !is)
	}
	return b
}

func TestLongTraces(t *testing.T) {
	// As many letters as may be: one fewer than states.
	for _, states := range []int{2, 3, 100, 255, 256} {
		for _, n := range []int{0, 1, 3, 8} {
			by := api.Letter(1<<n - 1)
			for _, l := range []api.Letter{0, by, by / 2} {
				must := told(slices.Repeat([]api.Letter{l}, states-1))
				a := chain(n, states, l, 0)
				shortest(t, a, must)
				missing(t, turned(a), must)
			}
		}
	}
	// Back to the state 0: as many as there are states.
	for _, states := range []int{1, 2, 3, 100, 255, 256} {
		a := round(2, "0"+string(slices.Repeat([]byte{'1'}, states-1)))
		missing(t, a, told(make([]api.Letter, states)))
		a = turned(a)
		shortest(t, a, "")
	}
}

func TestFirstTracesByEachLetter(t *testing.T) {
	// One letter alone is accepted, or is not: it is told, whichever it is.
	for n := range 9 {
		for l := range 1 << n {
			row := slices.Repeat([]int{1}, 1<<n)
			row[l] = 2
			rest := slices.Repeat([]int{1}, 1<<n)
			a := built(n, bools("001"), [][]int{row, rest, slices.Repeat([]int{2}, 1<<n)})
			shortest(t, a, strconv.Itoa(l))
			missing(t, turned(a), strconv.Itoa(l))
		}
	}
}

// P19.3: Count

func TestCount(t *testing.T) {
	for _, c := range []struct {
		why  string
		a    api.Auto
		many string
	}{
		{"p somewhere", some(), "0 1 3 7 15 31"},
		{"none", never(3), "0 0 0 0"},
		{"all, of one letter", always(0), "1 1 1 1"},
		{"all", always(1), "1 2 4 8 16"},
		{"all", always(3), "1 8 64 512 4096"},
		{"all", always(8), "1 256 65536 16777216 4294967296"},
		{"p at each", leads(1, "10", "1 0; 1 1"), "1 1 1 1 1"},
		{"p at each, of two", leads(2, "10", "1 0 1 0; 1*4"), "1 2 4 8 16"},
		{"p at the last", leads(1, "01", "0 1; 0 1"), "0 1 2 4 8"},
		{"of 1 or 3 letters", lengths(2, "0101"), "0 4 0 64 0 0"},
		{"of 0 or 2 letters", lengths(1, "101"), "1 0 4 0 0"},
		{"as many as two and one", leads(1, "010", "0 1; 2 0; 2 2"), "0 1 1 2 3 5 8 13 21"},
		{"round", round(1, "010"), "0 2 0 0 16 0 0 128"},
		{"not reached", leads(1, "001", "0 1; 1 0; 2 2"), "0 0 0 0"},
	} {
		for length, many := range numbers(c.many) {
			if n, err := lang.Count(c.a, length); n != uint64(many) || err != api.OK {
				t.Errorf("%s: of %d letters %d %d, not %d", c.why, length, n, err, many)
			}
		}
	}
}

func TestCountOfLengthsThatMayNotBe(t *testing.T) {
	for _, a := range []api.Auto{some(), never(0), never(8), always(0), always(8), round(1, "010")} {
		for _, length := range []int{-1, -2, -64, -1024, 1025, 1026, 2048, 65536, 1 << 31, 1 << 32, 1<<32 + 1, -1 << 32, math.MinInt, math.MinInt + 1, math.MaxInt, math.MaxInt - 1} {
			noCount(t, a, length, api.ErrArg)
		}
	}
	// The greatest that may be.
	counts(t, always(0), 1024, 1)
	counts(t, never(8), 1024, 0)
	counts(t, chain(8, 256, 7, 0), 0, 0)
	counts(t, leads(1, "10", "1 0; 1 1"), 1024, 1)
	counts(t, leads(1, "10", "1 0; 1 1"), 1023, 1)
	noCount(t, always(8), 1024, api.ErrOver)
	noCount(t, always(1), 1024, api.ErrOver)
	// Each length is another one: of 1,024 letters, of no fewer.
	a := round(0, string(slices.Repeat([]byte{'0'}, 255))+"1")
	for length := range 1025 {
		must := uint64(0)
		if length%256 == 255 {
			must = 1
		}
		counts(t, a, length, must)
	}
}

func TestCountAboutItsLimit(t *testing.T) {
	// All traces of n propositions but one: p somewhere, where p is one of the letters.
	for _, c := range [][2]int{{1, 64}, {2, 32}, {4, 16}, {8, 8}} {
		n, length := c[0], c[1]
		row := slices.Repeat([]int{1}, 1<<n)
		row[1<<n-1] = 0
		but := built(n, bools("01"), [][]int{row, slices.Repeat([]int{1}, 1<<n)})
		counts(t, but, length, math.MaxUint64)
		counts(t, but, length-1, 1<<(64-n)-1)
		noCount(t, but, length+1, api.ErrOver)
		// Just 2^64, and what is left of that by its last 64 bits: nought.
		for _, longer := range []int{0, 1, 2, 7, 64, 128, 500} {
			noCount(t, always(n), length+longer, api.ErrOver)
		}
		counts(t, always(n), length-1, 1<<(64-n))
		noCount(t, not(never(n)), length, api.ErrOver)
		counts(t, not(always(n)), length, 0)
	}
	// Of several parts: by the first letter to states 1 and 2, from which all is accepted, 3, from which nothing is, 4, all but one.
	for _, c := range []struct {
		props, length int
		first         string
		many          uint64
		err           api.Errno
	}{
		{1, 64, "1 3", 1 << 63, api.OK}, {1, 64, "3 2", 1 << 63, api.OK}, {1, 64, "3 3", 0, api.OK}, {1, 64, "4 4", 1<<64 - 2, api.OK},
		{1, 64, "1 4", 1<<64 - 1, api.OK}, {1, 64, "4 2", 1<<64 - 1, api.OK}, {1, 64, "1 2", 0, api.ErrOver}, {1, 64, "1 1", 0, api.ErrOver},
		{2, 32, "1 2 1 3", 3 << 62, api.OK}, {2, 32, "1 2 1 4", 1<<64 - 1, api.OK}, {2, 32, "4*4", 1<<64 - 4, api.OK}, {2, 32, "4 4 1 2", 1<<64 - 2, api.OK}, {2, 32, "1 2 1 2", 0, api.ErrOver},
		{2, 33, "3 3 3 4", 1<<64 - 1, api.OK}, {2, 33, "3*4", 0, api.OK}, {2, 33, "1 3 3 3", 0, api.ErrOver}, {2, 33, "4 3 4 3", 0, api.ErrOver}, {2, 33, "4 2 2 2", 0, api.ErrOver},
	} {
		stay := func(s int) []int { return slices.Repeat([]int{s}, 1<<c.props) }
		but := stay(1)
		but[0] = 4
		a := built(c.props, bools("01100"), [][]int{numbers(c.first), stay(1), stay(2), stay(3), but})
		if n, err := lang.Count(a, c.length); n != c.many || err != c.err {
			t.Error(c, n, err)
		}
	}
}

func TestCountIsOfTheLengthsSumsOnly(t *testing.T) {
	// What is never accepted may be as often as it likes.
	each := leads(8, "10", "0 1*255; 1*256")
	for _, length := range []int{0, 1, 8, 9, 64, 500, 1024} {
		counts(t, each, length, 1)
	}
	// So may what would be accepted from a state that is not reached.
	a := leads(1, "001", "0 1; 0 0; 2 2")
	counts(t, a, 1024, 0)
	a = leads(1, "101", "0 1; 1 1; 2 2")
	counts(t, a, 1024, 1)
	// A state from which too many are accepted is reached late: so few letters are left that they are not too many.
	rows := [][]int{}
	for s := range 199 {
		rows = append(rows, []int{200, s + 1})
	}
	rows = append(rows, []int{199, 199}, []int{200, 200})
	accept := make([]bool, 201)
	accept[199] = true
	late := built(1, accept, rows)
	counts(t, late, 198, 0)
	counts(t, late, 199, 1)
	counts(t, late, 199+63, 1<<63)
	noCount(t, late, 199+64, api.ErrOver)
	noCount(t, late, 1024, api.ErrOver)
	// Too many at one length, none at the next one.
	two := round(1, "10")
	for length := 62; length <= 1024; length++ {
		switch {
		case length%2 == 1:
			counts(t, two, length, 0)
		case length < 64:
			counts(t, two, length, 1<<length)
		default:
			noCount(t, two, length, api.ErrOver)
		}
	}
}

func TestCountOfGrownOnes(t *testing.T) {
	t.Parallel()
	chance := rand.New(rand.NewSource(2))
	over, great := 0, 0
	for range 300 {
		n := chance.Intn(4)
		a := growAuto(chance, n, 1+chance.Intn(8), 1+chance.Intn(4))
		if chance.Intn(2) == 0 {
			a = strayed(chance, n, 1+chance.Intn(8), 1+chance.Intn(4))
		}
		long := 100
		if chance.Intn(20) == 0 {
			long = 1024
		}
		for length, must := range newModel(a).counts(long) {
			countsBig(t, a, length, must)
			if !must.IsUint64() {
				over++
			} else if must.BitLen() > 60 {
				great++
			}
		}
		if t.Failed() {
			t.Fatal(toldAuto(a))
		}
	}
	if over < 1000 || great < 100 {
		t.Error(over, great)
	}
}

// P19.4: Reach and Live

func TestReachAndLive(t *testing.T) {
	for _, c := range []struct {
		props        int
		accept, rows string
		reach, live  string
	}{
		{0, "0", "0", "0", "0"},
		{0, "1", "0", "0", "1"},
		{8, "1", "0*256", "0", "1"},
		// The state 0 is reached by no letter, though letters lead there.
		{0, "001", "1; 2; 0", "0 1 2", "111"},
		{1, "00", "1 0; 0 0", "0 1", "00"},
		// Not reached.
		{1, "01", "0 0; 1 1", "0 -1", "01"},
		{1, "10", "0 0; 0 1", "0 -1", "11"},
		{1, "0011", "2 2; 0 3; 2 2; 1 1", "0 -1 1 -1", "1111"},
		// By the shortest, not by the first one.
		{1, "0000", "1 3; 2 2; 3 3; 0 0", "0 1 2 1", "0000"},
		{2, "0001", "0 1 0 2; 2 3 1 1; 2 2 2 1; 3*4", "0 1 1 2", "1111"},
		// States from which none that accepts is reached: at the end, and in a circle.
		{1, "0100", "1 2; 1 1; 2 3; 3 2", "0 1 1 2", "1100"},
		{1, "1000", "1 2; 1 1; 2 3; 3 2", "0 1 1 2", "1000"},
		{1, "0001", "1 2; 1 1; 2 3; 2 2", "0 1 1 2", "1011"},
		{1, "0010", "1 1; 0 1; 2 2; 2 0", "0 1 -1 -1", "0011"},
	} {
		a := leads(c.props, c.accept, c.rows)
		reaches(t, a, c.reach)
		lives(t, a, c.live)
		asTheModelSays(t, a)
	}
	// As many states as there may be.
	a := chain(1, 256, 1, 0)
	l, _ := lang.Reach(a)
	for s, length := range l {
		if length != s {
			t.Fatal(s, length)
		}
	}
	lives(t, a, string(slices.Repeat([]byte{'1'}, 256)))
	a.Accept[255] = false
	lives(t, a, string(slices.Repeat([]byte{'0'}, 256)))
	a.Accept[254] = true
	lives(t, a, string(slices.Repeat([]byte{'1'}, 255))+"0")
	lives(t, sized(256, 256), string(slices.Repeat([]byte{'0'}, 256)))
	reaches(t, sized(256, 256), told(append([]int{0}, slices.Repeat([]int{-1}, 255)...)))
}

// P19.4: Words

func TestWords(t *testing.T) {
	for _, c := range []struct {
		why string
		a   api.Auto
		by  [4]string
	}{
		{"p somewhere", some(), [4]string{"", "(1)", "(1)(0 1)(1 0)(1 1)", "(1)(0 1)(1 0)(1 1)(0 0 1)(0 1 0)(0 1 1)(1 0 0)(1 0 1)(1 1 0)(1 1 1)"}},
		{"none", never(2), [4]string{"", "", "", ""}},
		{"all, of one letter", always(0), [4]string{"()", "()(0)", "()(0)(0 0)", "()(0)(0 0)(0 0 0)"}},
		{"all", always(1), [4]string{"()", "()(0)(1)", "()(0)(1)(0 0)(0 1)(1 0)(1 1)", "()(0)(1)(0 0)(0 1)(1 0)(1 1)(0 0 0)(0 0 1)(0 1 0)(0 1 1)(1 0 0)(1 0 1)(1 1 0)(1 1 1)"}},
		{"the empty one", lengths(2, "1"), [4]string{"()", "()", "()", "()"}},
		{"one letter", lengths(2, "01"), [4]string{"", "(0)(1)(2)(3)", "(0)(1)(2)(3)", "(0)(1)(2)(3)"}},
		{"none or three", lengths(0, "1001"), [4]string{"()", "()", "()", "()(0 0 0)"}},
		{"not reached", leads(1, "001", "0 1; 1 0; 2 2"), [4]string{"", "", "", ""}},
		{"one of three letters", chain(8, 4, 255, 0), [4]string{"", "", "", "(255 255 255)"}},
		{"two beginnings, one end", leads(2, "0001", "0 1 2 0; 3 0 0 0; 0 0 0 3; 0*4"), [4]string{"", "", "(1 0)(2 3)", "(1 0)(2 3)(0 1 0)(0 2 3)(3 1 0)(3 2 3)"}},
	} {
		for most, must := range c.by {
			words(t, c.a, most, must)
			wordsAll(t, c.a, min(most, 2), newModel(c.a).words(min(most, 2)))
		}
		for _, most := range []int{-1, -2, 4, 5, 64, 1024, 1 << 32, 1<<32 + 1, -1 << 32, math.MinInt, math.MinInt + 3, math.MaxInt} {
			noWords(t, c.a, most, api.ErrArg)
		}
	}
}

func TestWordsAboutItsLimit(t *testing.T) {
	for _, c := range []struct {
		props  int
		accept string
		many   [4]int // of at most 0, 1, 2, 3 letters
	}{
		{4, "0001", [4]int{0, 0, 0, 4096}},
		{4, "1001", [4]int{1, 1, 1, 4097}},
		{4, "0101", [4]int{0, 16, 16, 4112}},
		{6, "001", [4]int{0, 0, 4096, 4096}},
		{6, "101", [4]int{1, 1, 4097, 4097}},
		{6, "011", [4]int{0, 64, 4160, 4160}},
		{7, "001", [4]int{0, 0, 16384, 16384}},
		{8, "110", [4]int{1, 257, 257, 257}},
		{8, "001", [4]int{0, 0, 65536, 65536}},
		{8, "0001", [4]int{0, 0, 0, 1 << 24}},
		{8, "1111", [4]int{1, 257, 65793, 16843009}},
		{0, "1111", [4]int{1, 2, 3, 4}},
	} {
		a := lengths(c.props, c.accept)
		for most, must := range c.many {
			l, err := lang.Words(a, most)
			if must > 4096 && (len(l) != 0 || err != api.ErrOver) || must <= 4096 && (len(l) != must || err != api.OK) {
				t.Error(c.props, c.accept, most, len(l), err)
			}
			if err == api.OK && c.props < 8 {
				wordsAll(t, a, most, newModel(a).words(most))
			}
		}
	}
	// Just 4,096, and one more, of all lengths together: of one letter, of two, of three.
	for more := range 2 {
		one := slices.Repeat([]int{4}, 256)
		for l := range 16 {
			one[l] = 1
		}
		two := slices.Repeat([]int{4}, 256)
		for l := range 15 {
			two[l] = 2
		}
		three := slices.Repeat([]int{4}, 256)
		for l := range 16 {
			three[l] = 3
		}
		// 16 of one letter, 240 of two, 3,840 of three.
		if more == 1 {
			one[255] = 3
		}
		a := built(8, bools("01110"), [][]int{one, two, three, slices.Repeat([]int{4}, 256), slices.Repeat([]int{4}, 256)})
		if l, err := lang.Words(a, 2); len(l) != 256+more || err != api.OK {
			t.Error(len(l), err)
		}
		l, err := lang.Words(a, 3)
		if more == 1 {
			noWords(t, a, 3, api.ErrOver)
		} else if len(l) != 4096 || told(l[15]) != "15" || told(l[16]) != "0 0" || told(l[255]) != "15 14" || told(l[256]) != "0 0 0" || told(l[4095]) != "15 14 15" || err != api.OK {
			t.Error(len(l), err)
		}
	}
}

func TestWordsOfGrownOnes(t *testing.T) {
	t.Parallel()
	chance := rand.New(rand.NewSource(3))
	met := map[bool]int{}
	for range 250 {
		n := chance.Intn(6)
		a := growAuto(chance, n, 1+chance.Intn(8), 1+chance.Intn(6))
		if chance.Intn(2) == 0 {
			a = strayed(chance, n, 1+chance.Intn(8), 1+chance.Intn(6))
		}
		m := newModel(a)
		for most := range 4 {
			must := m.words(most)
			met[len(must) > 4096]++
			wordsAll(t, a, most, must)
		}
		if t.Failed() {
			t.Fatal(toldAuto(a))
		}
	}
	if met[true] < 30 || met[false] < 500 {
		t.Error(met)
	}
}

func TestWordsOfEightPropositions(t *testing.T) {
	t.Parallel()
	chance := rand.New(rand.NewSource(4))
	met := map[bool]int{}
	for range 12 {
		// Few letters lead on, all others to the state 4, from which none does: so few traces are accepted.
		rows := make([][]int, 5)
		for s := range rows {
			rows[s] = slices.Repeat([]int{4}, 256)
			for range chance.Intn(40) * min(4-s, 1) {
				rows[s][chance.Intn(256)] = chance.Intn(5)
			}
		}
		a := built(8, bools("01010"), rows)
		var must [][]api.Letter
		for _, tr := range traces(2, 256) {
			if accepts(a, tr) {
				must = append(must, tr)
			}
		}
		wordsAll(t, a, 2, must)
		for first := range 256 {
			for second := range 256 {
				s := rows[rows[0][first]][second]
				for third, to := range rows[s] {
					if a.Accept[to] {
						must = append(must, []api.Letter{api.Letter(first), api.Letter(second), api.Letter(third)})
					}
				}
			}
		}
		met[len(must) > 4096]++
		wordsAll(t, a, 3, must)
	}
	if met[true] < 3 || met[false] < 3 {
		t.Error(met)
	}
}

// P19.5

func TestGrownOnesAsTheModelSays(t *testing.T) {
	t.Parallel()
	chance := rand.New(rand.NewSource(5))
	met := map[string]int{}
	for range 4000 {
		n, states := chance.Intn(4), 1+chance.Intn(10)
		a := growAuto(chance, n, states, 1+chance.Intn(8))
		switch chance.Intn(3) {
		case 0:
			a = strayed(chance, n, states, 1+chance.Intn(8))
		case 1:
			a = turned(a)
		}
		m := asTheModelSays(t, a)
		short, is := m.search(0, true)
		met["short "+strconv.FormatBool(is)]++
		if len(short) > 2 {
			met["short long"]++
		}
		miss, is := m.search(1, false)
		met["miss "+strconv.FormatBool(is)]++
		if len(miss) > 2 {
			met["miss long"]++
		}
		if slices.Contains(m.live(), false) {
			met["not live"]++
		}
		if slices.Contains(m.reach(), -1) {
			met["not reached"]++
		}
	}
	for _, what := range []string{"short true", "short false", "short long", "miss true", "miss false", "miss long", "not live", "not reached"} {
		if met[what] < 30 {
			t.Error(what, met[what])
		}
	}
}

func TestManyStatesAsTheModelSays(t *testing.T) {
	t.Parallel()
	chance := rand.New(rand.NewSource(6))
	for _, n := range []int{0, 1, 2, 2, 3, 4, 8} {
		for _, few := range []int{2, 60, 400} {
			// So many that there are no more than 4,096 nodes.
			a := growAuto(chance, n, min(256, 4096/(1<<n)), few)
			asTheModelSays(t, a)
			asTheModelSays(t, turned(shuffled(chance, a)))
		}
	}
}

func TestShortestAndMissingByTracesAlone(t *testing.T) {
	t.Parallel()
	chance := rand.New(rand.NewSource(7))
	met := map[bool]int{}
	for range 600 {
		n := chance.Intn(3)
		states := 1 + chance.Intn(6-n)
		a := growAuto(chance, n, states, 1+chance.Intn(5))
		all := traces(states, 1<<n)
		// No trace that stands ahead of what is told is accepted, and where none is told, none at all.
		short, is, err := lang.Shortest(a)
		at := slices.IndexFunc(all, func(tr []api.Letter) bool { return accepts(a, tr) })
		if is != (at >= 0) || err != api.OK || is && (!slices.Equal(short, all[at]) || len(short) >= states) {
			t.Fatal(toldAuto(a), short, is, err)
		}
		met[is]++
		miss, is, err := lang.Missing(a)
		at = slices.IndexFunc(all, func(tr []api.Letter) bool { return len(tr) > 0 && !accepts(a, tr) })
		if is != (at >= 0) || err != api.OK || is && (!slices.Equal(miss, all[at]) || len(miss) == 0) {
			t.Fatal(toldAuto(a), miss, is, err)
		}
		met[is]++
	}
	if met[true] < 100 || met[false] < 100 {
		t.Error(met)
	}
}

func TestWhereNoneIsShortestNothingIsAccepted(t *testing.T) {
	t.Parallel()
	chance := rand.New(rand.NewSource(8))
	met := map[string]int{}
	for range 1500 {
		n := chance.Intn(4)
		a := strayed(chance, n, 1+chance.Intn(6), 1+chance.Intn(12))
		short, is, _ := lang.Shortest(a)
		if is {
			met["some"]++
			accepted(t, a, short, true)
			// Fewer letters: none is accepted.
			for length := range short {
				counts(t, a, length, 0)
			}
			if n, err := lang.Count(a, len(short)); n == 0 || err != api.OK {
				t.Fatal(toldAuto(a), short, n, err)
			}
		} else {
			met["none"]++
			for _, length := range []int{0, 1, 2, 3, 10, 1024} {
				counts(t, a, length, 0)
			}
			words(t, a, 3, "")
			accepted(t, a, growTrace(chance, n, chance.Intn(50)), false)
		}
		// What is missing is the shortest of what else there is.
		miss, is, _ := lang.Missing(a)
		shortest(t, not(a), toldOr(miss, is))
		if is {
			met["missing"]++
			accepted(t, a, miss, false)
		} else {
			met["all"]++
			tr := growTrace(chance, n, 1+chance.Intn(50))
			accepted(t, a, tr, true)
		}
		if t.Failed() {
			t.Fatal(toldAuto(a))
		}
	}
	for _, what := range []string{"some", "none", "missing", "all"} {
		if met[what] < 20 {
			t.Error(what, met[what])
		}
	}
}

func TestCountAndCountOfTheOthers(t *testing.T) {
	t.Parallel()
	chance := rand.New(rand.NewSource(9))
	for range 400 {
		n := chance.Intn(9)
		a := growAuto(chance, min(n, 4), 1+chance.Intn(8), 1+chance.Intn(4))
		if n > 4 {
			a = lengths(n, "0110100")
		}
		n = a.Props
		others := not(a)
		told, refused := both.Not(a)
		if refused != api.OK {
			t.Fatal(toldAuto(a), refused)
		}
		for length := 1; length <= 64; length++ {
			if n*length >= 64 {
				break
			}
			one, err := lang.Count(a, length)
			other, errToo := lang.Count(others, length)
			if one+other != 1<<(n*length) || one > 1<<(n*length) || err != api.OK || errToo != api.OK {
				t.Fatal(toldAuto(a), length, one, other, err, errToo)
			}
			counts(t, told, length, other)
		}
		counts(t, others, 0, 0)
		counts(t, told, 0, 0)
	}
}

func TestCountIsHowManyWordsTells(t *testing.T) {
	t.Parallel()
	chance := rand.New(rand.NewSource(10))
	for range 500 {
		n := chance.Intn(5)
		a := growAuto(chance, n, 1+chance.Intn(8), 1+chance.Intn(6))
		for most := range 4 {
			l, err := lang.Words(a, most)
			if err == api.ErrOver {
				continue
			}
			var many [4]uint64
			for _, tr := range l {
				many[len(tr)]++
				accepted(t, a, tr, true)
			}
			for length := range most + 1 {
				counts(t, a, length, many[length])
			}
			if len(l) > 0 {
				shortest(t, a, told(l[0]))
			}
		}
	}
}

func TestNotLiveJustIfNothingIsAcceptedFromThere(t *testing.T) {
	t.Parallel()
	chance := rand.New(rand.NewSource(11))
	met := map[bool]int{}
	for range 800 {
		n := chance.Intn(3)
		a := strayed(chance, n, 1+chance.Intn(7), 1+chance.Intn(9))
		l, err := lang.Live(a)
		if err != api.OK || len(l) != len(a.Accept) {
			t.Fatal(toldAuto(a), l, err)
		}
		for s, live := range l {
			from := begun(a, s)
			if _, is, _ := lang.Shortest(from); is != live {
				t.Fatal(toldAuto(a), s, live)
			}
			some := false
			for _, tr := range traces(4, 1<<n) {
				some = some || accepts(from, tr)
			}
			if some && !live || !some && live && len(a.Accept) <= 5 {
				t.Fatal(toldAuto(a), s, live)
			}
			met[live]++
		}
	}
	if met[true] < 500 || met[false] < 500 {
		t.Error(met)
	}
}

func TestReachIsTheLengthOfTheShortest(t *testing.T) {
	t.Parallel()
	chance := rand.New(rand.NewSource(12))
	for range 800 {
		a := growAuto(chance, chance.Intn(4), 1+chance.Intn(12), 3)
		l, err := lang.Reach(a)
		if err != api.OK || len(l) != len(a.Accept) {
			t.Fatal(toldAuto(a), l, err)
		}
		for s, length := range l {
			// Just this state accepts.
			b := a
			b.Accept = make([]bool, len(a.Accept))
			b.Accept[s] = true
			if tr, is, _ := lang.Shortest(b); is != (length >= 0) || is && len(tr) != length || length < -1 {
				t.Fatal(toldAuto(a), s, length, tr)
			}
		}
	}
}

// Automata of formulas (P5: empty and full languages are told by shortest traces)

func TestAutomataOfFormulas(t *testing.T) {
	t.Parallel()
	names := []string{"p", "q"}
	for _, c := range []struct{ text, short, miss, many string }{
		{"p U q", "2", "0", "0 2 10 42"},
		{"<{p}*> q", "2", "0", "0 2 10 42"},
		{"false", none, "0", "0 0 0 0"},
		{"p & !p", none, "0", "0 0 0 0"},
		{"G X true", none, "0", "0 0 0 0"},
		{"true", "0", none, "0 4 16 64"},
		{"F last", "0", none, "0 4 16 64"},
		{"last", "0", "0 0", "0 4 0 0"},
		{"X X q", "0 0 2", "0", "0 0 0 32"},
		{"N N q", "0", "0 0 0", "0 4 16 32"},
		{"G F p", "1", "0", "0 2 8 32"},
		{"F (p & q)", "3", "0", "0 1 7 37"},
		{"G !(p & q)", "0", "3", "0 3 9 27"},
		{"F p & F q", "3", "0", "0 1 9 49"},
		{"F (p & X F q)", "1 2", "0", "0 0 4 32"},
		{"<({true} ; {true})*> last", "0", "0 0", "0 4 0 64"},
		{"[{true}*] (p -> X true)", "0", "1", "0 2 8 32"},
	} {
		a := compiled(t, names, c.text)
		shortest(t, a, c.short)
		missing(t, a, c.miss)
		for length, many := range numbers(c.many) {
			if n, err := lang.Count(a, length); n != uint64(many) || err != api.OK {
				t.Errorf("%s: of %d letters %d %d, not %d", c.text, length, n, err, many)
			}
		}
		asTheModelSays(t, a)
		// By what is satisfied.
		f, _ := parse.Formula(names, c.text)
		var must [][]api.Letter
		for _, tr := range traces(3, 4)[1:] {
			is, err := mean.Sat(f, tr)
			if err != api.OK {
				t.Fatal(c.text, err)
			}
			accepted(t, a, tr, is)
			if is {
				must = append(must, tr)
			}
		}
		wordsAll(t, a, 3, must)
		accepted(t, a, nil, false)
	}
	// 62 X: p stands at the 63rd position first.
	text := "p"
	for range 62 {
		text = "X " + text
	}
	a := compiled(t, names, text)
	shortest(t, a, told(letters("0*62 1")))
	missing(t, a, "0")
	// In the state that p at the 63rd led to all is accepted, in the other one nothing.
	l, _ := lang.Live(a)
	if len(l) != 65 || slices.Index(l, false) < 0 || slices.Index(l[slices.Index(l, false)+1:], false) >= 0 {
		t.Error(toldBools(l))
	}
}

// As many propositions, states and nodes as there may be

// crowded tells an automaton with 256 states that are all reached, and with just 4,096 nodes.
func crowded(chance *rand.Rand) api.Auto {
	d := &decided{props: 8, refs: map[string]int{}}
	a := api.Auto{Props: 8}
	for s := range 256 {
		// On so many of the last propositions the state hangs: no more than there is room for.
		many := 8
		for len(d.nodes)+1<<many-1 > 4096 {
			many--
		}
		where := make([]int, 256)
		for l := range where {
			where[l] = chance.Intn(256)
		}
		where[0] = min(s+1, 255)
		for l := range where {
			where[l] = where[l>>(8-many)<<(8-many)]
		}
		a.Accept = append(a.Accept, chance.Intn(20) == 0)
		a.Guard = append(a.Guard, d.add(where))
	}
	a.Accept[0] = false
	a.Nodes = d.nodes
	return a
}

func TestAsManyStatesAndNodesAsThereMayBe(t *testing.T) {
	t.Parallel()
	chance := rand.New(rand.NewSource(13))
	a := crowded(chance)
	if len(a.Accept) != 256 || len(a.Nodes) != 4096 || guard.Check(a) != api.OK {
		t.Fatal(len(a.Accept), len(a.Nodes))
	}
	m := asTheModelSays(t, a)
	for length, must := range m.counts(10) {
		countsBig(t, a, length, must)
	}
	noCount(t, a, 1024, api.ErrOver)
	wordsAll(t, a, 1, m.words(1))
	tr := growTrace(chance, 8, 1024)
	accepted(t, a, tr, accepts(a, tr))
	// Nothing is accepted; all is.
	a.Accept = make([]bool, 256)
	shortest(t, a, none)
	counts(t, a, 1024, 0)
	words(t, a, 3, "")
	missing(t, turned(a), none)
	noCount(t, turned(a), 1024, api.ErrOver)
	noWords(t, turned(a), 3, api.ErrOver)
}

// P1, and the rules

// spoil writes over a list, and over its spare room.
func spoil[T any](l []T, with T) {
	l = l[:cap(l)]
	for i := range l {
		l[i] = with
	}
}

// lists is all lists that are told of an automaton.
type lists struct {
	short, miss []api.Letter
	reach       []int
	live        []bool
	words       [][]api.Letter
}

// String tells all of them.
func (x lists) String() string {
	return told(x.short) + ", " + told(x.miss) + ", " + told(x.reach) + ", " + toldBools(x.live) + ", " + toldAll(x.words)
}

// ask tells all lists, and in a text what is told beside them.
func ask(a api.Auto) (lists, string) {
	var x lists
	var short, miss bool
	var errs [5]api.Errno
	x.short, short, errs[0] = lang.Shortest(a)
	x.miss, miss, errs[1] = lang.Missing(a)
	x.reach, errs[2] = lang.Reach(a)
	x.live, errs[3] = lang.Live(a)
	x.words, errs[4] = lang.Words(a, 3)
	text := strconv.FormatBool(short) + " " + strconv.FormatBool(miss)
	for _, err := range errs {
		text += " " + strconv.Itoa(int(err))
	}
	return x, text
}

// spoilAll writes over all lists, one behind the other: those that are not yet written over must be as they were.
func spoilAll(t *testing.T, x lists) {
	t.Helper()
	all := append([][]api.Letter{x.short, x.miss}, x.words...)
	var was []string
	for _, tr := range all {
		was = append(was, told(tr))
	}
	reach, live := told(x.reach), toldBools(x.live)
	spoil(x.words, []api.Letter{77})
	for i, tr := range all {
		if told(tr) != was[i] {
			t.Fatal(i, tr, was[i])
		}
		spoil(tr, 99)
	}
	if told(x.reach) != reach || toldBools(x.live) != live {
		t.Fatal(x.reach, x.live)
	}
	spoil(x.reach, 99)
	spoil(x.live, true)
	spoil(x.live, false)
}

func TestAnswersShareNoMemory(t *testing.T) {
	t.Parallel()
	for _, a := range []api.Auto{
		some(), never(0), always(0), always(2), chain(8, 12, 9, 0), round(2, "0110"), round(1, "0001"), lengths(3, "1101"),
		leads(2, "0110", "0 1 2 3; 3 3 2 1; 0 1 2 3; 3 3 2 1"), leads(1, "00001", "1 2; 3 3; 4 4; 3 3; 4 4"),
	} {
		was := toldAuto(a)
		first, beside := ask(a)
		must := first.String() + beside
		for range 3 {
			one, _ := ask(a)
			other, _ := ask(a)
			spoilAll(t, one)
			if other.String()+beside != must || toldAuto(a) != was {
				t.Fatal(was, toldAuto(a), other, must)
			}
			again, beside := ask(a)
			if again.String()+beside != must {
				t.Fatal(was, again, beside, must)
			}
		}
	}
}

// roomy tells an automaton whose lists have spare room, in which other things stand.
func roomy(a api.Auto) api.Auto {
	return api.Auto{
		Props:  a.Props,
		Accept: append(slices.Clip(a.Accept), true, false, true)[:len(a.Accept)],
		Guard:  append(slices.Clip(a.Guard), 99, -99, 0)[:len(a.Guard)],
		Nodes:  append(slices.Clip(a.Nodes), api.Node{P: 9, Lo: 9, Hi: 9}, api.Node{}, api.Node{P: -1, Lo: -1, Hi: -1})[:len(a.Nodes)],
	}
}

func TestNothingHandedInIsChangedOrReadBehindItsEnd(t *testing.T) {
	chance := rand.New(rand.NewSource(14))
	for range 200 {
		n, states := chance.Intn(4), 1+chance.Intn(8)
		a := roomy(growAuto(chance, n, states, 3))
		whole := api.Auto{Props: a.Props, Accept: a.Accept[:states+3], Guard: a.Guard[:states+3], Nodes: a.Nodes[:len(a.Nodes)+3]}
		was := toldAuto(whole)
		long := append(growTrace(chance, n, chance.Intn(9)), 255, 255, 255)
		traceWas := slices.Clone(long)
		tr := long[:len(long)-3]
		m := asTheModelSays(t, a)
		accepted(t, a, tr, accepts(a, tr))
		for length, must := range m.counts(5) {
			countsBig(t, a, length, must)
		}
		wordsAll(t, a, 3, m.words(3))
		x, _ := ask(a)
		spoilAll(t, x)
		// One that may not be is refused as it is, whatever stands behind its end.
		short := a
		short.Guard = a.Guard[:states-1]
		noAuto(t, short)
		if toldAuto(whole) != was || !slices.Equal(long, traceWas) {
			t.Fatal(was, toldAuto(whole), long)
		}
	}
}

func TestNothingHandedInIsKept(t *testing.T) {
	a := some()
	shortest(t, a, "1")
	l, _ := lang.Reach(a)
	live, _ := lang.Live(a)
	all, _ := lang.Words(a, 2)
	spoil(a.Accept, false)
	spoil(a.Guard, -1)
	spoil(a.Nodes, api.Node{})
	if told(l) != "0 1" || toldBools(live) != "11" || toldAll(all) != "(1)(0 1)(1 0)(1 1)" {
		t.Error(l, live, all)
	}
	// What is asked behind it is of what stands there now.
	noAuto(t, a)
	a.Nodes = nil
	shortest(t, a, none)
	reaches(t, a, "0 -1")
	shortest(t, some(), "1")
	tr := letters("0 1")
	accepted(t, some(), tr, true)
	tr[1] = 0
	accepted(t, some(), tr, false)
}

func TestNilAndEmptyAreTheSame(t *testing.T) {
	for _, l := range [][]api.Node{nil, {}, make([]api.Node, 0, 8)} {
		a := api.Auto{Props: 2, Accept: bools("01"), Guard: []int{-2, -2}, Nodes: l}
		accepted(t, a, nil, false)
		accepted(t, a, []api.Letter{}, false)
		shortest(t, a, "0")
		missing(t, a, none)
		counts(t, a, 2, 16)
		reaches(t, a, "0 1")
		lives(t, a, "11")
		words(t, a, 1, "(0)(1)(2)(3)")
		for _, guards := range [][]int{nil, {}} {
			noAuto(t, api.Auto{Props: 2, Accept: nil, Guard: guards, Nodes: l})
			noAuto(t, api.Auto{Props: 2, Accept: []bool{}, Guard: guards, Nodes: l})
			noAuto(t, api.Auto{Props: 2, Accept: bools("1"), Guard: guards, Nodes: l})
		}
	}
}

// odd tells a number such as no one asks for.
func odd(chance *rand.Rand) int {
	switch chance.Intn(6) {
	case 0:
		return chance.Intn(12) - 4
	case 1:
		return []int{math.MinInt, math.MaxInt, math.MinInt + 1, math.MaxInt - 1, 1 << 20, -1 << 20, 1 << 32, -1 << 32, 1024, 1025}[chance.Intn(10)]
	case 2:
		return int(chance.Uint64())
	}
	return chance.Intn(6) - 3
}

// oddAuto tells an automaton that may be, or such as no one asks for.
func oddAuto(chance *rand.Rand) api.Auto {
	if chance.Intn(2) == 0 {
		return growAuto(chance, chance.Intn(3), 1+chance.Intn(3), 2)
	}
	a := api.Auto{Props: odd(chance), Accept: make([]bool, chance.Intn(4)), Guard: make([]int, chance.Intn(4)), Nodes: make([]api.Node, chance.Intn(3))}
	for i := range a.Guard {
		a.Guard[i] = odd(chance)
	}
	for i := range a.Nodes {
		a.Nodes[i] = api.Node{P: odd(chance), Lo: odd(chance), Hi: odd(chance)}
	}
	return a
}

// mustBe tells the error of what is asked: the automaton's, if it has one, else that of a number that is not from 0 to most.
func mustBe(a api.Auto, n, most int) api.Errno {
	switch {
	case guard.Check(a) != api.OK:
		return api.ErrAuto
	case n < 0 || n > most:
		return api.ErrArg
	}
	return api.OK
}

func TestCallsAreCalm(t *testing.T) {
	t.Parallel()
	chance := rand.New(rand.NewSource(15))
	met := map[api.Errno]int{}
	for range 20000 {
		a := oddAuto(chance)
		must := guard.Check(a)
		n := odd(chance)
		if chance.Intn(4) == 0 {
			n = chance.Intn(1025)
		}
		l := api.Letter(chance.Intn(256))
		if chance.Intn(2) == 0 {
			l %= 4
		}
		tr := slices.Repeat([]api.Letter{l}, []int{0, 1, 3, 1024, 1025}[chance.Intn(5)])
		traceErr := must
		if must == api.OK {
			traceErr = letter.Trace(a.Props, tr)
		}
		met[traceErr]++
		if is, err := lang.Accepts(a, tr); err != traceErr || is != (err == api.OK && accepts(a, tr)) {
			t.Fatal(toldAuto(a), l, len(tr), is, err)
		}
		many, err := lang.Count(a, n)
		met[err]++
		if first := mustBe(a, n, 1024); err != first && (err != api.ErrOver || first != api.OK) || err != api.OK && many != 0 {
			t.Fatal(toldAuto(a), n, many, err)
		}
		all, err := lang.Words(a, n)
		if err != mustBe(a, n, 3) || err != api.OK && len(all) != 0 {
			t.Fatal(toldAuto(a), n, len(all), err)
		}
		short, is, one := lang.Shortest(a)
		miss, isToo, other := lang.Missing(a)
		if one != must || other != must || must != api.OK && (is || isToo) || !is && len(short) != 0 || !isToo && len(miss) != 0 || isToo == (len(miss) == 0) {
			t.Fatal(toldAuto(a), short, is, one, miss, isToo, other)
		}
		reach, one := lang.Reach(a)
		live, other := lang.Live(a)
		if one != must || other != must || len(reach) != len(live) || (must == api.OK) != (len(live) > 0) {
			t.Fatal(toldAuto(a), reach, one, live, other)
		}
	}
	for _, err := range []api.Errno{api.OK, api.ErrArg, api.ErrLong, api.ErrAuto, api.ErrOver} {
		if met[err] < 100 {
			t.Error(err, met[err])
		}
	}
}

func TestAnswersHangOnArgumentsAlone(t *testing.T) {
	t.Parallel()
	chance := rand.New(rand.NewSource(16))
	a := growAuto(chance, 2, 200, 60)
	tr := growTrace(chance, 2, 1024)
	all := func() string {
		is, err := lang.Accepts(a, tr)
		many, errToo := lang.Count(a, 20)
		x, beside := ask(a)
		return x.String() + beside + strconv.FormatBool(is) + strconv.FormatUint(many, 10) + told([]int{int(err), int(errToo)})
	}
	must := all()
	var group sync.WaitGroup
	for range 8 {
		group.Go(func() {
			if got := all(); got != must {
				t.Error("another answer at another time")
			}
		})
	}
	group.Wait()
}
