package both_test

import (
	"math"
	"math/rand"
	"slices"
	"strconv"
	"strings"
	"sync"
	"testing"

	"rejoinder/api"
	"rejoinder/both"
	"rejoinder/canon"
	"rejoinder/compile"
	"rejoinder/guard"
	"rejoinder/lang"
)

// none stands where no trace is told; the empty one is "".
const none = "none"

// ends tells the automaton a of the chapter's examples: the traces that end with 1.
func ends() api.Auto { return auto(1, "01", "0 0", "0 -1 -2") }

// some tells the automaton of the traces that are not empty.
func some(n int) api.Auto { return api.Auto{Props: n, Accept: bools("01"), Guard: []int{-2, -2}} }

// never tells the automaton that accepts nothing.
func never(n int) api.Auto { return api.Auto{Props: n, Accept: bools("0"), Guard: []int{-1}} }

// always tells the automaton that accepts each trace, the empty one too.
func always(n int) api.Auto { return api.Auto{Props: n, Accept: bools("1"), Guard: []int{-1}} }

// putting is one of the functions that put together, and which traces it asks for.
type putting struct {
	name  string
	put   func(a, b api.Auto) (api.Auto, api.Errno)
	asked verdict
}

// puttings tells all of them. Not is handed the first automaton alone.
func puttings() []putting {
	return []putting{
		{"Not", func(a, _ api.Auto) (api.Auto, api.Errno) { return both.Not(a) }, not},
		{"And", both.And, and},
		{"Or", both.Or, or},
		{"Xor", both.Xor, xor},
	}
}

// puts asks for what is put together, which must be told so.
func puts(t *testing.T, f putting, a, b, must api.Auto) {
	t.Helper()
	if c, err := f.put(a, b); toldAuto(c) != toldAuto(must) || err != api.OK {
		t.Errorf("%s of %.300s and %.300s = %.300s %d, not %.300s", f.name, toldAuto(a), toldAuto(b), toldAuto(c), err, toldAuto(must))
	}
}

// bare tells whether an automaton is the zero value.
func bare(a api.Auto) bool {
	return a.Props == 0 && len(a.Accept) == 0 && len(a.Guard) == 0 && len(a.Nodes) == 0
}

// noPut asks for what is put together, which must be refused.
func noPut(t *testing.T, f putting, a, b api.Auto, must api.Errno) {
	t.Helper()
	if c, err := f.put(a, b); !bare(c) || err != must {
		t.Errorf("%s of %.300s and %.300s = %.300s %d, not %d", f.name, toldAuto(a), toldAuto(b), toldAuto(c), err, must)
	}
}

// parts asks Part in both orders, which must tell so, and Equal, which must be in line with it.
func parts(t *testing.T, a, b api.Auto, must string) {
	t.Helper()
	for range 2 {
		tr, is, err := both.Part(a, b)
		good := is && told(tr) == must
		if must == none {
			good = !is && len(tr) == 0
		}
		if !good || err != api.OK {
			t.Errorf("Part(%.300s, %.300s) = %.60s %t %d, not %.60s", toldAuto(a), toldAuto(b), told(tr), is, err, must)
		}
		if is, err := both.Equal(a, b); is != (must == none) || err != api.OK {
			t.Errorf("Equal(%.300s, %.300s) = %t %d", toldAuto(a), toldAuto(b), is, err)
		}
		a, b = b, a
	}
}

// implies asks Implies, which must tell so.
func implies(t *testing.T, a, b api.Auto, must bool) {
	t.Helper()
	if is, err := both.Implies(a, b); is != must || err != api.OK {
		t.Errorf("Implies(%.300s, %.300s) = %t %d, not %t", toldAuto(a), toldAuto(b), is, err, must)
	}
}

// noPair asks all of two automata, which must be refused by all but Not.
func noPair(t *testing.T, a, b api.Auto, must api.Errno) {
	t.Helper()
	for _, f := range puttings()[1:] {
		noPut(t, f, a, b, must)
	}
	if tr, is, err := both.Part(a, b); len(tr) != 0 || is || err != must {
		t.Errorf("Part(%.300s, %.300s) = %v %t %d, not %d", toldAuto(a), toldAuto(b), tr, is, err, must)
	}
	if is, err := both.Equal(a, b); is || err != must {
		t.Errorf("Equal(%.300s, %.300s) = %t %d, not %d", toldAuto(a), toldAuto(b), is, err, must)
	}
	if is, err := both.Implies(a, b); is || err != must {
		t.Errorf("Implies(%.300s, %.300s) = %t %d, not %d", toldAuto(a), toldAuto(b), is, err, must)
	}
}

// noAuto asks all of an automaton that may not be, as the first, the second, and both: whatever the other one is, this is told.
func noAuto(t *testing.T, a api.Auto) {
	t.Helper()
	if guard.Check(a) != api.ErrAuto {
		t.Errorf("%.300s may be", toldAuto(a))
	}
	noPut(t, puttings()[0], a, a, api.ErrAuto)
	for _, b := range []api.Auto{a, ends(), some(0), always(2), never(8), {}, auto(2, "1", "0", "")} {
		noPair(t, a, b, api.ErrAuto)
		noPair(t, b, a, api.ErrAuto)
	}
}

// toldOr tells a trace, or that there is none.
func toldOr(tr []api.Letter, is bool) string {
	if !is {
		return none
	}
	return told(tr)
}

// asTheModelSays asks for all of two automata, and tells how often each error was met.
func asTheModelSays(t *testing.T, a, b api.Auto) map[api.Errno]int {
	t.Helper()
	m := newModel(a, b)
	met := map[api.Errno]int{}
	for _, f := range puttings() {
		must, err := m.put(f.asked)
		if f.name == "Not" {
			must, err = newModel(a, a).put(not)
		}
		met[err]++
		if err == api.OK {
			puts(t, f, a, b, must)
		} else {
			noPut(t, f, a, b, err)
		}
	}
	parts(t, a, b, toldOr(m.first(xor)))
	_, is := m.first(but)
	implies(t, a, b, !is)
	if t.Failed() {
		t.FailNow()
	}
	return met
}

// compiled tells the automaton of a formula's text.
func compiled(t *testing.T, names []string, text string) api.Auto {
	t.Helper()
	a, fault := compile.Text(names, text)
	if fault.Err != api.OK {
		t.Fatal(text, fault)
	}
	return a
}

// The chapter's examples

func TestExamples(t *testing.T) {
	a, b := ends(), some(1)
	fs := puttings()
	puts(t, fs[0], a, b, auto(1, "01", "0 0", "0 -2 -1"))
	puts(t, fs[1], a, b, a)
	puts(t, fs[2], a, b, some(1))
	puts(t, fs[3], a, b, auto(1, "01", "0 0", "0 -2 -1"))
	parts(t, a, b, "0")
	parts(t, a, a, none)
	implies(t, a, b, true)
	implies(t, b, a, false)
	if is, err := both.Equal(a, some(2)); is || err != api.ErrArg {
		t.Error(is, err)
	}
	// b's Min is told, where b is not the smallest one.
	big := leads(1, "011", "1 2; 2 1; 1 2")
	puts(t, fs[2], a, big, some(1))
	puts(t, fs[1], a, big, a)
	parts(t, big, b, none)
}

// P20.1: automata that may not be

// sized tells an automaton of so many states without nodes.
func sized(states, guards int) api.Auto {
	a := api.Auto{Props: 2, Accept: make([]bool, states), Guard: make([]int, guards)}
	for i := range a.Guard {
		a.Guard[i] = -1 - i%max(states, 1)
	}
	return a
}

// nodesOf tells so many nodes of the proposition 0, each another one, of 65 states or more.
func nodesOf(many int) []api.Node {
	var l []api.Node
	for i := range many {
		lo, hi := i/64, i%64
		if hi >= lo {
			hi++
		}
		l = append(l, api.Node{P: 0, Lo: -1 - lo, Hi: -1 - hi})
	}
	return l
}

func TestAutomataThatMayNotBe(t *testing.T) {
	t.Parallel()
	noAuto(t, api.Auto{})
	noAuto(t, api.Auto{Props: 1})
	// Propositions.
	for _, n := range []int{-1, 9, 64, math.MinInt, math.MaxInt} {
		noAuto(t, auto(n, "1", "-1", ""))
		noAuto(t, auto(n, "10", "0 0", "0 -1 -2"))
	}
	// States and guards.
	for _, c := range [][2]int{{0, 0}, {0, 1}, {1, 0}, {1, 2}, {2, 1}, {255, 256}, {256, 255}, {256, 257}, {257, 257}, {257, 256}, {1000, 1000}} {
		noAuto(t, sized(c[0], c[1]))
	}
	// Nodes.
	a := sized(80, 80)
	a.Nodes = nodesOf(4097)
	noAuto(t, a)
	// A node's proposition.
	for _, p := range []int{-1, 1, 2, 8, math.MinInt, math.MaxInt} {
		noAuto(t, api.Auto{Props: 1, Accept: bools("01"), Guard: []int{0, 0}, Nodes: []api.Node{{P: p, Lo: -1, Hi: -2}}})
	}
	noAuto(t, auto(0, "01", "0 0", "0 -1 -2"))
	// Both sides alike.
	noAuto(t, auto(2, "01", "0 0", "0 -1 -1"))
	noAuto(t, auto(2, "01", "1 1", "1 -1 -2; 0 0 0"))
	// A side that is no state, no lesser place, or of no greater proposition.
	for _, ref := range []int{-3, -4, math.MinInt, 1, 2, 4096, math.MaxInt, 0} {
		noAuto(t, api.Auto{Props: 2, Accept: bools("01"), Guard: []int{0, 0}, Nodes: []api.Node{{P: 0, Lo: ref, Hi: -2}, {P: 1, Lo: -1, Hi: -2}}})
		noAuto(t, api.Auto{Props: 2, Accept: bools("01"), Guard: []int{0, 0}, Nodes: []api.Node{{P: 0, Lo: -2, Hi: ref}, {P: 1, Lo: -1, Hi: -2}}})
	}
	noAuto(t, auto(2, "01", "1 1", "1 -1 -2; 1 -1 0"))
	noAuto(t, auto(2, "01", "1 1", "0 -1 -2; 1 0 -1"))
	// Nodes the same.
	noAuto(t, auto(1, "01", "0 1", "0 -1 -2; 0 -1 -2"))
	// Guards.
	for _, ref := range []int{1, 2, 4096, -3, -4, math.MinInt, math.MaxInt} {
		for at := range 2 {
			a := ends()
			a.Guard[at] = ref
			noAuto(t, a)
		}
	}
	// What is wrong is so too where no state comes to it.
	noAuto(t, auto(2, "01", "-1 -2", "0 -1 -1"))
	noAuto(t, auto(2, "01", "-1 -2", "2 -1 -2"))
	noAuto(t, auto(2, "01", "-1 9", ""))
}

func TestUnlikePropositions(t *testing.T) {
	kinds := []func(n int) api.Auto{never, always, some, func(n int) api.Auto { return chain(n, 4, api.Letter(1<<n-1), 0) }}
	for n := range 9 {
		for k := range 9 {
			for _, one := range kinds {
				for _, other := range kinds {
					if n != k {
						noPair(t, one(n), other(k), api.ErrArg)
					}
				}
			}
			for i, one := range kinds[:3] {
				if n == k {
					parts(t, one(n), one(k), none)
					parts(t, one(n), kinds[3](k), []string{told(slices.Repeat([]api.Letter{api.Letter(1<<k - 1)}, 3)), "", "0"}[i])
				}
			}
		}
	}
	// Whatever they say, however great they are.
	noPair(t, round(0, strings.Repeat("01", 128)), round(8, strings.Repeat("01", 128)), api.ErrArg)
	noPair(t, counter(2, 0, 256, func(s int) bool { return s == 255 }), counter(3, 1, 256, func(s int) bool { return s == 255 }), api.ErrArg)
}

// P20.2: what is put together

func TestPut(t *testing.T) {
	fs := puttings()
	type small struct{ accept, rows string }
	nothing, all, nonEmpty, empty := small{"0", "0 0"}, small{"1", "0 0"}, small{"01", "1 1; 1 1"}, small{"10", "1 1; 1 1"}
	end1, end0 := small{"01", "0 1; 0 1"}, small{"01", "1 0; 1 0"}
	first1, first0 := small{"001", "1 2; 1 1; 2 2"}, small{"010", "1 2; 1 1; 2 2"}
	odd, even := small{"01", "1 1; 0 0"}, small{"10", "1 1; 0 0"}
	evenMore := small{"001", "1 1; 2 2; 1 1"} // of an even length, but not empty
	is := func(f putting, a, b, must small) {
		t.Helper()
		x, y := leads(1, a.accept, a.rows), leads(1, b.accept, b.rows)
		c := leads(1, must.accept, must.rows)
		puts(t, f, x, y, c)
		if f.name != "Not" {
			puts(t, f, y, x, c)
		}
		asTheModelSays(t, x, y)
	}
	for _, c := range []struct{ a, must small }{
		{nothing, nonEmpty}, {all, nothing}, {nonEmpty, nothing}, {empty, nonEmpty}, {end1, end0}, {end0, end1},
		{first1, first0}, {first0, first1}, {odd, evenMore}, {even, odd}, {evenMore, odd},
		// Not the smallest one, or with states that are not reached.
		{small{"011", "1 2; 2 1; 1 2"}, nothing}, {small{"011", "0 1; 0 2; 0 1"}, end0}, {small{"010", "0 1; 0 1; 1 2"}, end0},
	} {
		is(fs[0], c.a, nothing, c.must)
	}
	for _, c := range []struct{ a, b, and, or, xor small }{
		{nothing, nothing, nothing, nothing, nothing},
		{all, nothing, nothing, nonEmpty, nonEmpty},
		{all, all, nonEmpty, nonEmpty, nothing},
		{all, nonEmpty, nonEmpty, nonEmpty, nothing},
		{empty, empty, nothing, nothing, nothing},
		{empty, all, nothing, nonEmpty, nonEmpty},
		{empty, nothing, nothing, nothing, nothing},
		{empty, nonEmpty, nothing, nonEmpty, nonEmpty},
		{empty, end1, nothing, end1, end1},
		{end1, end1, end1, end1, nothing},
		{end1, end0, nothing, nonEmpty, nonEmpty},
		{end1, all, end1, nonEmpty, end0},
		{even, even, evenMore, evenMore, nothing},
		{even, odd, nothing, nonEmpty, nonEmpty},
		{even, evenMore, evenMore, evenMore, nothing},
		{even, nothing, nothing, evenMore, evenMore},
		{first1, first0, nothing, nonEmpty, nonEmpty},
		{end1, first1, small{"0010", "1 2; 1 1; 3 2; 3 2"}, small{"0011", "1 2; 1 3; 2 2; 1 3"}, small{"00011", "1 2; 1 3; 4 2; 1 3; 4 2"}},
		{end1, odd, small{"001", "1 2; 0 0; 0 0"}, small{"011", "1 1; 0 2; 1 1"}, small{"0101", "1 2; 0 3; 0 3; 1 2"}},
	} {
		is(fs[1], c.a, c.b, c.and)
		is(fs[2], c.a, c.b, c.or)
		is(fs[3], c.a, c.b, c.xor)
	}
}

func TestTheEmptyTraceIsNeverAccepted(t *testing.T) {
	t.Parallel()
	chance := rand.New(rand.NewSource(1))
	for range 200 {
		n := chance.Intn(3)
		a, b := growAuto(chance, n, 1+chance.Intn(4), 2), growAuto(chance, n, 1+chance.Intn(4), 2)
		// Where no letter leads back to them, what the first states say counts for nothing.
		first, second := begun(a), begun(b)
		for _, f := range puttings() {
			first.Accept[0], second.Accept[0] = false, false
			must, err := f.put(first, second)
			if err != api.OK || must.Accept[0] {
				t.Fatal(toldAuto(first), toldAuto(second), toldAuto(must), err)
			}
			for _, c := range [][2]bool{{false, true}, {true, false}, {true, true}} {
				first.Accept[0], second.Accept[0] = c[0], c[1]
				puts(t, f, first, second, must)
			}
		}
		// Where letters may lead back it does of all other traces.
		a.Accept[0], b.Accept[0] = chance.Intn(2) == 0, chance.Intn(2) == 0
		asTheModelSays(t, a, b)
	}
}

// begun tells an automaton to whose state 0 no letter leads: where one did there is a state more.
func begun(a api.Auto) api.Auto {
	rows := [][]int{nil}
	for _, where := range rowsOf(a) {
		var l []int
		for _, to := range where {
			l = append(l, to+1)
		}
		rows = append(rows, l)
	}
	rows[0] = rows[1]
	return built(a.Props, append([]bool{a.Accept[0]}, a.Accept...), rows)
}

// counter tells an automaton that counts the letters that have a proposition, round and round.
func counter(n, p, round int, accept func(s int) bool) api.Auto {
	is := make([]bool, round)
	rows := make([][]int, round)
	for s := range rows {
		is[s] = accept(s)
		for l := range 1 << n {
			rows[s] = append(rows[s], (s+l>>p%2)%round)
		}
	}
	return built(n, is, rows)
}

func TestJustSoManyStates(t *testing.T) {
	t.Parallel()
	at := func(must int) func(int) bool { return func(s int) bool { return s == must } }
	but := func(must int) func(int) bool { return func(s int) bool { return s != must } }
	fs := puttings()
	for _, c := range []struct{ one, other int }{{16, 16}, {4, 64}, {64, 4}, {3, 85}, {85, 3}, {5, 51}, {7, 37}, {13, 20}, {10, 10}} {
		m, n := c.one, c.other
		for _, x := range []struct {
			f    putting
			a, b api.Auto
			must int
		}{
			{fs[1], counter(2, 0, m, at(m-1)), counter(2, 1, n, at(n-1)), m * n},
			{fs[1], counter(2, 0, m, at(0)), counter(2, 1, n, at(n-1)), m * n},
			// The empty trace is as no other is.
			{fs[1], counter(2, 0, m, at(0)), counter(2, 1, n, at(0)), m*n + 1},
			{fs[2], counter(2, 0, m, but(0)), counter(2, 1, n, but(0)), m * n},
			{fs[2], counter(2, 0, m, but(m-1)), counter(2, 1, n, but(n-1)), m*n + 1},
			{fs[3], counter(2, 0, m, at(m-1)), counter(2, 1, n, at(n-1)), m * n},
			{fs[3], counter(2, 0, m, at(0)), counter(2, 1, n, at(0)), m * n},
			{fs[3], counter(2, 0, m, at(0)), counter(2, 1, n, at(n-1)), m*n + 1},
		} {
			if x.must > 256 {
				noPut(t, x.f, x.a, x.b, api.ErrStates)
				noPut(t, x.f, x.b, x.a, api.ErrStates)
			} else if got, err := x.f.put(x.a, x.b); len(got.Accept) != x.must || err != api.OK {
				t.Errorf("%s of %d and %d: %d states %d, not %d", x.f.name, m, n, len(got.Accept), err, x.must)
			}
			if m == 16 || m == 85 {
				asTheModelSays(t, x.a, x.b)
			}
		}
	}
}

func TestNotsStates(t *testing.T) {
	t.Parallel()
	is := puttings()[0]
	line := func(many int) string { return strings.Repeat("0", many) }
	for _, c := range []struct {
		a    api.Auto
		must int
	}{
		// Round and round: where the state 0 does not accept the empty trace is as no other is.
		{round(0, "1"+line(255)), 256},
		{round(0, line(255)+"1"), 257},
		{round(0, "1"+line(254)), 255},
		{round(0, line(254)+"1"), 256},
		{round(3, line(255)+"1"), 257},
		{round(8, "1"+line(255)), 256},
		{counter(1, 0, 256, func(s int) bool { return s == 0 }), 256},
		{counter(1, 0, 256, func(s int) bool { return s == 255 }), 257},
		{counter(1, 0, 255, func(s int) bool { return s == 254 }), 256},
		// No letter leads back to the state 0.
		{lengths(0, line(254)+"1"), 256},
		{lengths(2, "1"+line(253)+"1"), 256},
		// A letter does.
		{chain(1, 256, 1, 0), 257},
		{chain(1, 255, 1, 0), 256},
		{chain(1, 256, 1, 1), 256},
		// Two states are alike, or are not reached: they do not count.
		{leads(0, line(253)+"110", rowsTo(256, 254)), 254},
		{leads(0, line(254)+"10", rowsTo(256, 254)), 255},
		{round(0, strings.Repeat("0001", 64)), 5},
		{round(0, strings.Repeat("1000", 64)), 4},
	} {
		if c.must > 256 {
			noPut(t, is, c.a, c.a, api.ErrStates)
		} else if got, err := both.Not(c.a); len(got.Accept) != c.must || err != api.OK {
			t.Errorf("Not of %.300s: %d states %d, not %d", toldAuto(c.a), len(got.Accept), err, c.must)
		}
		if c.a.Props < 2 {
			asTheModelSays(t, c.a, never(c.a.Props))
		}
	}
}

// rowsTo tells rows for one letter: each state leads to the next one, that one stays, as all behind it do.
func rowsTo(states, last int) string {
	var l []string
	for s := range states {
		l = append(l, strconv.Itoa(min(s+1, max(s, last))))
	}
	return strings.Join(l, ";")
}

// full adds so many states behind those that there are, each of which by the letter 0 leads to the next one, the last one to itself, which accepts or does not; all else is by chance among them. There are just as many nodes then as are asked for.
func full(chance *rand.Rand, d *decided, a *api.Auto, states, limit int, last bool) {
	from := len(a.Accept)
	for s := range states {
		// On so many of the last propositions the state hangs: no more than there is room for.
		many := 8
		for len(d.nodes)+1<<many-1 > limit {
			many--
		}
		where := make([]int, 256)
		for l := range where {
			where[l] = from + chance.Intn(states)
		}
		where[0] = from + min(s+1, states-1)
		for l := range where {
			where[l] = where[l>>(8-many)<<(8-many)]
		}
		// Those to which no node is left are told apart by how far it is to the last one but one, which alone is not as the last.
		is := chance.Intn(3) == 0
		if s >= states-2 {
			is = last == (s == states-1)
		}
		a.Accept = append(a.Accept, is)
		a.Guard = append(a.Guard, d.add(where))
	}
}

// forked tells an automaton whose state 0 goes without the proposition 0 to the states from 1 on, with it to others behind them, of which so many are for each side; and with so many nodes, the first one counted, or two, by the propositions 0 and 1.
func forked(chance *rand.Rand, one, other, nodes int, two bool) api.Auto {
	d := &decided{props: 8, refs: map[string]int{}}
	where := make([]int, 256)
	for l := range where {
		where[l] = 1 + l%2*one
		if two && l%4 == 3 {
			where[l]++
		}
	}
	a := api.Auto{Props: 8, Accept: []bool{false}, Guard: []int{d.add(where)}}
	full(chance, d, &a, one, nodes/2, true)
	full(chance, d, &a, other, nodes, false)
	a.Nodes = d.nodes
	return a
}

// side tells an automaton that is another one where the first letter has the proposition 0, or has not; else it goes to its state 1, and stays there.
func side(a api.Auto, has int) api.Auto {
	end := len(a.Accept)
	rows := append(rowsOf(a), slices.Repeat([]int{end}, 256))
	for l := range rows[0] {
		if l%2 != has {
			rows[0][l] = end
		}
	}
	keep := []int{0, end}
	for i := 0; i < len(keep); i++ {
		for _, to := range rows[keep[i]] {
			if !slices.Contains(keep, to) {
				keep = append(keep, to)
			}
		}
	}
	var accept []bool
	var few [][]int
	for _, s := range keep {
		var where []int
		for _, to := range rows[s] {
			where = append(where, slices.Index(keep, to))
		}
		accept, few = append(accept, s < end && a.Accept[s]), append(few, where)
	}
	return built(8, accept, few)
}

func TestJustSoManyNodes(t *testing.T) {
	t.Parallel()
	chance := rand.New(rand.NewSource(2))
	fs := puttings()
	for _, c := range []struct {
		one, other, nodes int
		two               bool
		must              api.Errno
	}{
		{100, 100, 4095, false, api.OK},
		{90, 110, 4096, false, api.OK},
		{100, 100, 4097, false, api.ErrGuards},
		{100, 100, 4096, true, api.OK},
		{100, 100, 4097, true, api.ErrGuards},
		{127, 128, 4097, false, api.ErrGuards},
		// Too many states are told ahead of too many nodes.
		{128, 128, 4096, false, api.ErrStates},
		{128, 128, 4097, false, api.ErrStates},
	} {
		whole := forked(chance, c.one, c.other, c.nodes, c.two)
		if len(whole.Accept) != 1+c.one+c.other || len(whole.Nodes) != c.nodes {
			t.Fatal(len(whole.Accept), len(whole.Nodes))
		}
		a, b := side(whole, 0), side(whole, 1)
		if guard.Check(a) != api.OK || guard.Check(b) != api.OK {
			t.Fatal(len(a.Accept), len(a.Nodes), len(b.Accept), len(b.Nodes))
		}
		for _, f := range fs[1:] {
			// Where one of them is not asked it says what does not count.
			a.Accept[1], b.Accept[1] = f.name == "And", f.name == "And"
			if c.must != api.OK {
				noPut(t, f, a, b, c.must)
				continue
			}
			must, err := canon.Min(whole)
			if len(must.Accept) != len(whole.Accept) || len(must.Nodes) != c.nodes || err != api.OK {
				t.Fatal(len(must.Accept), len(must.Nodes), err)
			}
			puts(t, f, a, b, must)
			puts(t, f, b, a, must)
		}
	}
}

// crowded tells an automaton with 256 states that are all reached, and with just 4,096 nodes.
func crowded(chance *rand.Rand) api.Auto {
	d := &decided{props: 8, refs: map[string]int{}}
	a := api.Auto{Props: 8}
	full(chance, d, &a, 256, 4096, true)
	a.Nodes = d.nodes
	return a
}

func TestAsManyStatesAndNodesAsThereMayBe(t *testing.T) {
	t.Parallel()
	chance := rand.New(rand.NewSource(3))
	a := crowded(chance)
	a.Accept[0] = true
	least, err := canon.Min(a)
	if len(least.Accept) != 256 || len(least.Nodes) != 4096 || err != api.OK {
		t.Fatal(len(least.Accept), len(least.Nodes), err)
	}
	fs := puttings()
	// It does not accept the empty trace, and no more of them are there.
	not, err := both.Not(a)
	if len(not.Accept) != 256 || len(not.Nodes) != 4096 || not.Accept[0] || err != api.OK {
		t.Error(len(not.Accept), len(not.Nodes), err)
	}
	puts(t, fs[0], a, a, turned(least))
	puts(t, fs[3], a, always(8), turned(least))
	puts(t, fs[1], not, some(8), not)
	puts(t, fs[2], not, not, not)
	puts(t, fs[3], a, a, never(8))
	puts(t, fs[1], a, not, never(8))
	puts(t, fs[2], a, not, some(8))
	// With the empty trace as no other trace is there is a state too many.
	noPut(t, fs[0], not, not, api.ErrStates)
	noPut(t, fs[1], a, a, api.ErrStates)
	noPut(t, fs[2], a, never(8), api.ErrStates)
	parts(t, a, a, none)
	parts(t, a, least, none)
	parts(t, a, not, "")
	implies(t, a, a, true)
	implies(t, a, not, false)
	implies(t, not, a, false)
	b := crowded(chance)
	noPut(t, fs[3], a, b, api.ErrStates)
	parts(t, a, b, toldOr(newModel(a, b).first(xor)))
	parts(t, chain(8, 256, 77, 0), never(8), told(letters("77*255")))
}

// turned tells an automaton in which just the other states accept.
func turned(a api.Auto) api.Auto {
	b := a
	b.Accept = nil
	for _, is := range a.Accept {
		b.Accept = append(b.Accept, !is)
	}
	return b
}

// seen tells an automaton that counts the letters that have a proposition, round and round, and keeps in mind whether a letter had another one: it accepts with so many, if one had, or if none had.
func seen(n, p, round, mind int, accept func(s int, had bool) bool) api.Auto {
	var is []bool
	var rows [][]int
	for s := range 2 * round {
		is = append(is, accept(s/2, s%2 == 1))
		var where []int
		for l := range 1 << n {
			where = append(where, (s/2+l>>p%2)%round*2+max(s%2, l>>mind%2))
		}
		rows = append(rows, where)
	}
	return built(n, is, rows)
}

func TestPairsThatAreMetDoNotCount(t *testing.T) {
	t.Parallel()
	fs := puttings()
	// Each trace has the proposition 2 somewhere, or has not: no trace is accepted by both, though many thousand pairs are met.
	a := seen(3, 0, 128, 2, func(s int, had bool) bool { return s == 127 && had })
	b := seen(3, 1, 128, 2, func(s int, had bool) bool { return s == 127 && !had })
	puts(t, fs[1], a, b, never(3))
	noPut(t, fs[2], a, b, api.ErrStates)
	noPut(t, fs[3], a, b, api.ErrStates)
	implies(t, a, b, false)
	// All traces are accepted by one of them.
	c := seen(3, 0, 128, 2, func(s int, had bool) bool { return s == 127 || had })
	d := seen(3, 1, 128, 2, func(s int, had bool) bool { return s == 127 || !had })
	puts(t, fs[2], c, d, some(3))
	noPut(t, fs[1], c, d, api.ErrStates)
	// All 65,536 pairs there may be.
	e := counter(2, 0, 256, func(s int) bool { return s == 255 })
	f := counter(2, 1, 256, func(s int) bool { return s == 255 })
	for _, g := range fs[1:] {
		noPut(t, g, e, f, api.ErrStates)
	}
	parts(t, e, f, told(letters("1*255")))
	implies(t, e, f, false)
	puts(t, fs[0], turned(e), turned(e), e)
}

// P20.3: Part, Equal and Implies

func TestPart(t *testing.T) {
	for _, c := range []struct {
		props            int
		accept, rows     string
		acceptToo, other string
		must             string
		implies          string // whether the first implies the second, and the other way round
	}{
		// One state.
		{0, "0", "0", "0", "0", none, "11"},
		{0, "1", "0", "1", "0", none, "11"},
		{0, "1", "0", "0", "0", "", "01"},
		{2, "1", "0*4", "1", "0*4", none, "11"},
		{2, "0", "0*4", "1", "0*4", "", "10"},
		// The empty trace counts, too, and it is the shortest.
		{1, "10", "1 1; 1 1", "0", "0 0", "", "01"},
		{1, "01", "1 1; 1 1", "1", "0 0", "", "10"},
		{1, "01", "1 1; 1 1", "10", "1 1; 1 1", "", "00"},
		{1, "10", "1 1; 1 1", "01", "0 1; 0 1", "", "00"},
		{1, "10", "1 1; 1 1", "1", "0 0", "0", "10"},
		// A letter more.
		{1, "01", "0 1; 0 1", "01", "1 1; 1 1", "0", "10"},
		{1, "01", "0 1; 0 1", "01", "1 0; 1 0", "0", "00"},
		{1, "01", "0 1; 0 1", "01", "0 1; 1 1", "1 0", "10"},
		{1, "01", "0 1; 0 1", "011", "0 1; 0 2; 0 2", none, "11"},
		{1, "01", "0 1; 0 1", "010", "0 1; 0 2; 0 2", "1 1", "01"},
		// The least letter, and the first that is unlike counts first.
		{2, "011", "0 0 1 2; 1*4; 2*4", "0", "0*4", "2", "01"},
		{2, "01", "0 0 0 1; 1*4", "0", "0*4", "3", "01"},
		{2, "01", "0 1 0 1; 1*4", "01", "0 1 1 0; 1*4", "2", "00"},
		{1, "00001", "1 2; 3 3; 4 4; 3 3; 4 4", "0", "0 0", "1 0", "01"},
		{1, "00001", "1 2; 3 4; 4 4; 3 3; 4 4", "0", "0 0", "0 1", "01"},
		{1, "00001", "1 2; 3 4; 4 4; 3 3; 4 4", "00001", "1 2; 4 3; 4 4; 3 3; 4 4", "0 0", "00"},
		{1, "00001", "1 2; 3 3; 4 4; 3 3; 4 4", "00001", "1 2; 3 3; 4 3; 3 3; 4 4", "1 1", "01"},
		{2, "00001", "3 2 1 3; 4 3 3 3; 4 3 3 3; 3*4; 4*4", "0", "0*4", "1 0", "01"},
		{2, "00001", "3 2 1 3; 4 3 3 3; 3 3 3 4; 3*4; 4*4", "0", "0*4", "1 3", "01"},
		// A shorter one stands ahead of one with lesser letters.
		{1, "0001", "1 3; 2 2; 3 3; 3 3", "0", "0 0", "1", "01"},
		{1, "0001", "1 2; 2 2; 2 3; 3 3", "0", "0 0", "1 1", "01"},
		// By turns one accepts what the other one does not: both are looked at.
		{1, "011", "1 2; 1 1; 2 2", "010", "1 2; 1 1; 2 2", "1", "01"},
		{1, "001", "1 2; 1 1; 2 2", "010", "1 2; 1 1; 2 2", "0", "00"},
		{0, "010", "1; 2; 2", "001", "1; 2; 2", "0", "00"},
		{0, "0110", "1; 2; 3; 3", "0010", "1; 2; 3; 3", "0", "01"},
		// Round and round.
		{0, "10", "1; 0", "100", "1; 2; 0", "0 0", "00"},
		{0, "100", "1; 2; 0", "100000", "1; 2; 3; 4; 5; 0", "0 0 0", "01"},
		{0, "100", "1; 2; 0", "100100", "1; 2; 3; 4; 5; 0", none, "11"},
		// States that no trace leads to do not count.
		{1, "001", "0 1; 1 0; 2 2", "0", "0 0", none, "11"},
		{1, "110", "0 1; 1 0; 2 2", "1", "0 0", none, "11"},
	} {
		a, b := leads(c.props, c.accept, c.rows), leads(c.props, c.acceptToo, c.other)
		parts(t, a, b, c.must)
		implies(t, a, b, c.implies[0] == '1')
		implies(t, b, a, c.implies[1] == '1')
		asTheModelSays(t, a, b)
		asTheModelSays(t, b, a)
	}
}

func TestPartByEachLetter(t *testing.T) {
	// By one letter alone they are unlike: it is told, whichever it is; of two the lesser one.
	for n := range 9 {
		for l := range 1 << n {
			row := slices.Repeat([]int{0}, 1<<n)
			row[l] = 1
			a := built(n, bools("01"), [][]int{row, slices.Repeat([]int{1}, 1<<n)})
			parts(t, a, never(n), strconv.Itoa(l))
			implies(t, never(n), a, true)
			implies(t, a, never(n), false)
			other := slices.Clone(row)
			other[(l+1)%(1<<n)] = 1
			b := built(n, bools("01"), [][]int{other, slices.Repeat([]int{1}, 1<<n)})
			must := strconv.Itoa((l + 1) % (1 << n))
			if n == 0 {
				must = none
			}
			parts(t, a, b, must)
			implies(t, a, b, true)
			implies(t, b, a, n == 0)
		}
	}
}

// alike tells a text of noughts and ones that goes on like one that says itself again behind each so many of them, and like one that does so behind each so many others, for as long as may be: the places that must be the same fall into two kinds.
func alike(one, other int) string {
	long := one + other - 2
	l := make([]byte, long)
	mark := func(from int, with byte) {
		queue := []int{from}
		for len(queue) > 0 {
			at := queue[0]
			queue = queue[1:]
			if at < 0 || at >= long || l[at] != 0 {
				continue
			}
			l[at] = with
			queue = append(queue, at-one, at+one, at-other, at+other)
		}
	}
	mark(0, '0')
	for at := range l {
		mark(at, '1')
	}
	return string(l)
}

func TestLongTraces(t *testing.T) {
	t.Parallel()
	// As many letters as may be: two fewer than both have states together.
	for _, c := range [][2]int{{2, 3}, {3, 4}, {3, 5}, {10, 7}, {100, 99}, {255, 254}, {256, 255}, {256, 253}, {251, 256}} {
		text := alike(c[0], c[1])
		for _, n := range []int{0, 2} {
			a, b := round(n, text[:c[0]]), round(n, text[:c[1]])
			parts(t, a, b, told(make([]api.Letter, c[0]+c[1]-2)))
		}
	}
	// By the last letter that one of them goes on by.
	for _, states := range []int{2, 3, 100, 256} {
		for _, n := range []int{0, 2} {
			top := api.Letter(1<<n - 1)
			for _, l := range []api.Letter{0, top} {
				must := slices.Repeat([]api.Letter{l}, states-1)
				a := chain(n, states, l, 0)
				parts(t, a, never(n), told(must))
				parts(t, turned(a), always(n), told(must))
				implies(t, never(n), a, true)
				implies(t, a, never(n), false)
				implies(t, turned(a), always(n), true)
				implies(t, always(n), turned(a), false)
			}
		}
	}
}

func TestPartOfCircles(t *testing.T) {
	t.Parallel()
	chance := rand.New(rand.NewSource(4))
	met := map[bool]int{}
	for range 400 {
		var texts [2]string
		for i := range texts {
			texts[i] = strings.Repeat([]string{"0", "1", "01", "001", "0010", "1101"}[chance.Intn(6)], 1+chance.Intn(9))
		}
		must, one, other := none, true, true
		for at := range len(texts[0]) * len(texts[1]) {
			x, y := texts[0][at%len(texts[0])], texts[1][at%len(texts[1])]
			if x != y && must == none {
				must = told(make([]api.Letter, at))
			}
			one, other = one && x <= y, other && y <= x
		}
		a, b := round(2, texts[0]), round(2, texts[1])
		parts(t, a, b, must)
		implies(t, a, b, one)
		implies(t, b, a, other)
		met[must == none]++
		if t.Failed() {
			t.Fatal(texts)
		}
	}
	if met[true] < 20 || met[false] < 100 {
		t.Error(met)
	}
}

// P20.2, P20.3: as the model says

// growPair tells two automata over as many propositions: by chance, or such as accept the same traces, or nearly.
func growPair(chance *rand.Rand, n, most int) (api.Auto, api.Auto) {
	grow := []func(*rand.Rand, int, int, int) api.Auto{growAuto, strayed}[chance.Intn(2)]
	a := grow(chance, n, 1+chance.Intn(most), 1+chance.Intn(4))
	b := grow(chance, n, 1+chance.Intn(most), 1+chance.Intn(4))
	switch chance.Intn(4) {
	case 0:
		b = shuffled(chance, blown(chance, a, len(a.Accept)+chance.Intn(most)))
		at := chance.Intn(len(b.Accept))
		b.Accept[at] = b.Accept[at] != (chance.Intn(2) == 0)
	case 1:
		b = turned(blown(chance, a, len(a.Accept)+chance.Intn(most)))
	}
	// Else the empty trace would part most of them.
	if chance.Intn(3) > 0 {
		b.Accept[0] = a.Accept[0]
	}
	return a, b
}

func TestGrownOnesAsTheModelSays(t *testing.T) {
	t.Parallel()
	chance := rand.New(rand.NewSource(5))
	for range 800 {
		a, b := growPair(chance, chance.Intn(4), 6)
		asTheModelSays(t, a, b)
	}
}

func TestManyStatesAsTheModelSays(t *testing.T) {
	t.Parallel()
	chance := rand.New(rand.NewSource(6))
	met := map[api.Errno]int{}
	for range 30 {
		a, b := growPair(chance, 1+chance.Intn(2), 24)
		for err, many := range asTheModelSays(t, a, b) {
			met[err] += many
		}
		a, b = growAuto(chance, 3, 14+chance.Intn(10), 2), growAuto(chance, 3, 20, 2)
		for err, many := range asTheModelSays(t, a, b) {
			met[err] += many
		}
	}
	// With 8 propositions few states come to many nodes.
	for range 3 {
		a, b := growAuto(chance, 8, 5+chance.Intn(4), 2), growAuto(chance, 8, 6, 2)
		for err, many := range asTheModelSays(t, a, b) {
			met[err] += many
		}
	}
	if met[api.OK] < 50 || met[api.ErrStates] < 20 || met[api.ErrGuards] < 3 {
		t.Error(met)
	}
}

// acceptsJust holds what an automaton accepts against what must be of each trace of few letters.
func acceptsJust(t *testing.T, c api.Auto, long int, must func(tr []api.Letter) bool) {
	t.Helper()
	for _, tr := range traces(long, 1<<c.Props) {
		if is := len(tr) > 0 && must(tr); accepts(c, tr) != is {
			t.Fatalf("%.300s: %s is accepted: %t", toldAuto(c), told(tr), !is)
		}
	}
}

func TestPutTogetherByTracesAlone(t *testing.T) {
	t.Parallel()
	chance := rand.New(rand.NewSource(7))
	for range 200 {
		n := chance.Intn(3)
		a, b := growPair(chance, n, 4)
		for _, f := range puttings() {
			c, err := f.put(a, b)
			if err != api.OK {
				t.Fatal(toldAuto(a), toldAuto(b), err)
			}
			acceptsJust(t, c, []int{30, 8, 5}[n], func(tr []api.Letter) bool { return f.asked(accepts(a, tr), accepts(b, tr)) })
		}
	}
}

func TestPartByTracesAlone(t *testing.T) {
	t.Parallel()
	chance := rand.New(rand.NewSource(8))
	met := map[string]int{}
	for range 600 {
		n := chance.Intn(3)
		a, b := growPair(chance, n, 3)
		must, one, other := none, true, true
		// No shortest trace has more letters than both have states together.
		for _, tr := range traces(min(len(a.Accept)+len(b.Accept), []int{20, 9, 6}[n]), 1<<n) {
			x, y := accepts(a, tr), accepts(b, tr)
			if x != y && must == none {
				must = told(tr)
			}
			one, other = one && (!x || y), other && (!y || x)
		}
		parts(t, a, b, must)
		implies(t, a, b, one)
		implies(t, b, a, other)
		switch must {
		case none, "":
			met[must]++
		default:
			met["some"]++
		}
		if t.Failed() {
			t.FailNow()
		}
	}
	if met[none] < 20 || met[""] < 20 || met["some"] < 100 {
		t.Error(met)
	}
}

// P20.4 (P5): what follows

func TestWhatIsPutTogetherIsCanonical(t *testing.T) {
	t.Parallel()
	chance := rand.New(rand.NewSource(9))
	for range 400 {
		a, b := growPair(chance, chance.Intn(5), 8)
		for _, f := range puttings() {
			c, err := f.put(a, b)
			if is, errToo := canon.Is(c); !is || err != api.OK || errToo != api.OK || c.Props != a.Props || c.Accept[0] {
				t.Fatal(f.name, toldAuto(a), toldAuto(b), toldAuto(c), err, errToo)
			}
			if is, err := lang.Accepts(c, nil); is || err != api.OK {
				t.Fatal(f.name, toldAuto(a), toldAuto(b), toldAuto(c), is, err)
			}
		}
	}
}

func TestEqualIsThatMinOfBothIsTheSame(t *testing.T) {
	t.Parallel()
	chance := rand.New(rand.NewSource(10))
	met := map[bool]int{}
	for range 800 {
		a, b := growPair(chance, chance.Intn(4), 8)
		one, _ := canon.Min(a)
		other, _ := canon.Min(b)
		must := toldAuto(one) == toldAuto(other)
		met[must]++
		if is, err := both.Equal(a, b); is != must || err != api.OK {
			t.Fatal(toldAuto(a), toldAuto(b), is, err)
		}
		if _, is, _ := both.Part(a, b); is == must {
			t.Fatal(toldAuto(a), toldAuto(b), is)
		}
		// Each implies the other just if they are equal.
		to, _ := both.Implies(a, b)
		from, _ := both.Implies(b, a)
		if (to && from) != must {
			t.Fatal(toldAuto(a), toldAuto(b), to, from)
		}
	}
	if met[true] < 50 || met[false] < 200 {
		t.Error(met)
	}
}

func TestPartsTraceIsAcceptedByJustOne(t *testing.T) {
	t.Parallel()
	chance := rand.New(rand.NewSource(11))
	many := 0
	for range 600 {
		n := chance.Intn(3)
		a, b := growPair(chance, n, 12)
		tr, is, err := both.Part(a, b)
		if err != api.OK {
			t.Fatal(err)
		}
		if !is {
			continue
		}
		many++
		if accepts(a, tr) == accepts(b, tr) || len(tr) > len(a.Accept)+len(b.Accept)-2 {
			t.Fatal(toldAuto(a), toldAuto(b), tr)
		}
		for _, short := range traces(min(len(tr)-1, 6), 1<<n) {
			if len(short) < len(tr) && accepts(a, short) != accepts(b, short) {
				t.Fatal(toldAuto(a), toldAuto(b), tr, short)
			}
		}
	}
	if many < 200 {
		t.Error(many)
	}
}

// asked tells what is put together, which must be.
func asked(t *testing.T, c api.Auto, err api.Errno) api.Auto {
	t.Helper()
	if err != api.OK {
		t.Fatal(err)
	}
	return c
}

func TestNotOfNot(t *testing.T) {
	t.Parallel()
	chance := rand.New(rand.NewSource(12))
	for range 400 {
		a, _ := growPair(chance, chance.Intn(5), 12)
		not, err := both.Not(a)
		twice, errToo := both.Not(asked(t, not, err))
		// With the empty trace as it is, or without it: just what else is accepted counts.
		a.Accept[0] = a.Accept[0] && chance.Intn(2) == 0
		if a.Accept[0] {
			puts(t, puttings()[1], a, some(a.Props), asked(t, twice, errToo))
			continue
		}
		not, err = both.Not(a)
		twice, errToo = both.Not(asked(t, not, err))
		least, _ := canon.Min(a)
		if toldAuto(asked(t, twice, errToo)) != toldAuto(least) {
			t.Fatal(toldAuto(a), toldAuto(twice), toldAuto(least))
		}
	}
}

func TestNotOfAndIsOrOfNots(t *testing.T) {
	t.Parallel()
	chance := rand.New(rand.NewSource(13))
	of := func(f func(a, b api.Auto) (api.Auto, api.Errno), a, b api.Auto) api.Auto {
		c, err := f(a, b)
		return asked(t, c, err)
	}
	not := func(a api.Auto) api.Auto { return of(puttings()[0].put, a, a) }
	same := func(x, y api.Auto) {
		t.Helper()
		if toldAuto(x) != toldAuto(y) {
			t.Fatal(toldAuto(x), toldAuto(y))
		}
	}
	for range 300 {
		n := chance.Intn(4)
		a, b := growPair(chance, n, 6)
		same(not(of(both.And, a, b)), of(both.Or, not(a), not(b)))
		same(not(of(both.Or, a, b)), of(both.And, not(a), not(b)))
		same(of(both.Xor, a, b), of(both.And, of(both.Or, a, b), not(of(both.And, a, b))))
		same(of(both.Xor, not(a), b), not(of(both.Xor, a, b)))
		same(of(both.And, a, b), of(both.And, b, a))
		same(of(both.Or, a, not(a)), some(n))
		same(of(both.And, a, not(a)), never(n))
		same(of(both.And, a, a), of(both.Or, a, never(n)))
		implies(t, of(both.And, a, b), a, true)
		implies(t, of(both.And, a, some(n)), of(both.Or, a, b), true)
	}
}

func TestXorAcceptsNothingJustIfNoTracePartsThem(t *testing.T) {
	t.Parallel()
	chance := rand.New(rand.NewSource(14))
	met := map[[2]bool]int{}
	for range 800 {
		n := chance.Intn(3)
		a, b := growPair(chance, n, 6)
		if chance.Intn(2) == 0 {
			// The empty trace alone may part these.
			a = begun(a)
			b = blown(chance, a, len(a.Accept)+chance.Intn(4))
			b.Accept[0] = chance.Intn(2) == 0
			b = begun(b)
		}
		m := newModel(a, b)
		must := false
		for _, x := range m.pairs()[1:] {
			must = must || m.is(x, xor)
		}
		c, err := both.Xor(a, b)
		_, is, _ := lang.Shortest(asked(t, c, err))
		if is != must {
			t.Fatal(toldAuto(a), toldAuto(b), toldAuto(c), must)
		}
		_, parted, _ := both.Part(a, b)
		met[[2]bool{must, parted}]++
	}
	// By the empty one alone, by another one, by none.
	if met[[2]bool{false, true}] < 20 || met[[2]bool{true, true}] < 100 || met[[2]bool{false, false}] < 20 || met[[2]bool{true, false}] > 0 {
		t.Error(met)
	}
}

func TestAutomataOfFormulas(t *testing.T) {
	t.Parallel()
	names := []string{"p", "q"}
	texts := []string{"p U q", "true", "false", "last", "X p", "N p", "G F p", "F (p & X q)", "G (p -> X q)", "<({p} ; {q})*> last", "[{true}*] (q -> p)", "p R q"}
	fs := puttings()
	for _, f := range texts {
		a := compiled(t, names, f)
		puts(t, fs[0], a, a, compiled(t, names, "!("+f+")"))
		for _, g := range texts {
			b := compiled(t, names, g)
			puts(t, fs[1], a, b, compiled(t, names, "("+f+") & ("+g+")"))
			puts(t, fs[2], a, b, compiled(t, names, "("+f+") | ("+g+")"))
			puts(t, fs[3], a, b, compiled(t, names, "!(("+f+") <-> ("+g+"))"))
			all, _, _ := lang.Missing(compiled(t, names, "("+f+") -> ("+g+")"))
			implies(t, a, b, len(all) == 0)
		}
	}
	for _, c := range []struct{ one, other, must, implies string }{
		{"p U q", "<{p}*> q", none, "11"},
		{"p U q", "q | p & X (p U q)", none, "11"},
		{"X p", "N p", "0", "10"},
		{"F p", "G p", "0 1", "01"},
		{"G F p", "F (p & last)", none, "11"},
		{"F p & F q", "F (p & q)", "1 2", "01"},
		{"X X q", "false", "0 0 2", "01"},
		{"p U q", "F q", "0 2", "10"},
		{"p | q", "p & q", "1", "01"},
		{"!(p U q)", "!p R !q", none, "11"},
	} {
		a, b := compiled(t, names, c.one), compiled(t, names, c.other)
		parts(t, a, b, c.must)
		implies(t, a, b, c.implies[0] == '1')
		implies(t, b, a, c.implies[1] == '1')
	}
}

// P19.5: how many are accepted, and how many are not

func TestCountAndCountOfNot(t *testing.T) {
	t.Parallel()
	chance := rand.New(rand.NewSource(15))
	for range 300 {
		n := chance.Intn(9)
		a := growAuto(chance, n, 1+chance.Intn(8-n/2), 1+chance.Intn(4))
		not, err := both.Not(a)
		if err != api.OK {
			t.Fatal(err)
		}
		for length := 1; length <= 70 && n*length < 64; length++ {
			one, err := lang.Count(a, length)
			other, errToo := lang.Count(not, length)
			if one+other != 1<<(n*length) || one > 1<<(n*length) || err != api.OK || errToo != api.OK {
				t.Fatal(toldAuto(a), length, one, other, err, errToo)
			}
		}
		if many, err := lang.Count(not, 0); many != 0 || err != api.OK {
			t.Fatal(toldAuto(a), many, err)
		}
	}
}

// No proposition, and 8 of them

func TestNoProposition(t *testing.T) {
	t.Parallel()
	fs := puttings()
	for _, c := range []struct{ one, other, not, and, or, xor string }{
		// Which lengths are accepted, all longer ones not.
		{"01", "001", "", "", "011", "011"},
		{"1101", "0111", "", "0101", "0111", "001"},
		{"1", "", "", "", "", ""},
		{"0011", "00011", "", "0001", "00111", "00101"},
	} {
		a, b := lengths(0, c.one), lengths(0, c.other)
		for i, must := range []string{c.and, c.or, c.xor} {
			least, _ := canon.Min(lengths(0, must))
			puts(t, fs[1+i], a, b, least)
		}
		asTheModelSays(t, a, b)
	}
	puts(t, fs[0], always(0), always(0), never(0))
	puts(t, fs[0], never(0), never(0), some(0))
	puts(t, fs[0], lengths(0, "01"), never(0), leads(0, "001", "1; 2; 2"))
	parts(t, lengths(0, "0001"), lengths(0, "0011"), "0 0")
	// Round and round.
	for one := 1; one <= 12; one++ {
		for other := 1; other <= 12; other++ {
			a, b := round(0, "1"+strings.Repeat("0", one-1)), round(0, strings.Repeat("0", other-1)+"1")
			asTheModelSays(t, a, b)
		}
	}
}

func TestEightPropositions(t *testing.T) {
	t.Parallel()
	// Which of two propositions a letter has, whichever they are.
	for p := range 8 {
		for q := range 8 {
			a, b := compiled(t, strings.Fields("a b c d e f g h"), "F "+string(rune('a'+p))), compiled(t, strings.Fields("a b c d e f g h"), "G "+string(rune('a'+q)))
			tr, is, err := both.Part(a, b)
			must := "0 " + strconv.Itoa(1<<p)
			if p != q {
				must = strconv.Itoa(min(1<<p, 1<<q))
			}
			if told(tr) != must || !is || err != api.OK {
				t.Error(p, q, tr, must, err)
			}
			implies(t, a, b, false)
			implies(t, b, a, p == q)
		}
	}
	chance := rand.New(rand.NewSource(16))
	for range 6 {
		a, b := growAuto(chance, 8, 3, 2), growAuto(chance, 8, 3, 2)
		asTheModelSays(t, a, b)
	}
	for _, l := range []api.Letter{0, 1, 128, 254, 255} {
		asTheModelSays(t, chain(8, 5, l, 0), chain(8, 4, 255-l, 1))
		asTheModelSays(t, chain(8, 5, l, 0), chain(8, 6, l, 1))
	}
}

// P1, and the rules

// spoil writes over a list, and over its spare room.
func spoil[T any](l []T, with T) {
	l = l[:cap(l)]
	for i := range l {
		l[i] = with
	}
}

// spoilAuto writes over all lists of an automaton, one behind the other: those that are not yet written over must be as they were.
func spoilAuto(t *testing.T, a api.Auto) {
	t.Helper()
	guards, nodesWas := told(a.Guard), slices.Clone(a.Nodes)
	spoil(a.Accept, true)
	spoil(a.Accept, false)
	if told(a.Guard) != guards {
		t.Fatal(a.Guard)
	}
	spoil(a.Guard, 99)
	if !slices.Equal(a.Nodes, nodesWas) {
		t.Fatal(a.Nodes)
	}
	spoil(a.Nodes, api.Node{P: 77, Lo: 77, Hi: 77})
}

// answers is all that is told of two automata.
type answers struct {
	put  [4]api.Auto
	tr   []api.Letter
	text string // what else there is
}

// String tells all of it.
func (x answers) String() string {
	text := x.text + told(x.tr)
	for _, c := range x.put {
		text += "; " + toldAuto(c)
	}
	return text
}

// ask tells all of two automata.
func ask(a, b api.Auto) answers {
	var x answers
	for i, f := range puttings() {
		c, err := f.put(a, b)
		x.put[i], x.text = c, x.text+strconv.Itoa(int(err))+" "
	}
	tr, is, err := both.Part(a, b)
	equal, errToo := both.Equal(a, b)
	follows, errLast := both.Implies(a, b)
	x.tr = tr
	x.text += toldBools([]bool{is, equal, follows}) + " " + told([]int{int(err), int(errToo), int(errLast)}) + " "
	return x
}

// spoilAll writes over all of it.
func spoilAll(t *testing.T, x answers) {
	t.Helper()
	for i, c := range x.put {
		spoilAuto(t, c)
		for _, other := range x.put[i+1:] {
			if len(other.Accept) > 0 && guard.Check(other) != api.OK {
				t.Fatal(toldAuto(other))
			}
		}
	}
	spoil(x.tr, 99)
}

func TestAnswersShareNoMemory(t *testing.T) {
	t.Parallel()
	chance := rand.New(rand.NewSource(17))
	for range 100 {
		a, b := growPair(chance, chance.Intn(3), 5)
		if chance.Intn(3) == 0 {
			// Canonical ones, which are told as they are.
			a, _ = both.Not(a)
			b = some(a.Props)
		}
		was := toldAuto(a) + toldAuto(b)
		must := ask(a, b).String()
		for range 3 {
			one, other := ask(a, b), ask(a, b)
			spoilAll(t, one)
			if other.String() != must || toldAuto(a)+toldAuto(b) != was {
				t.Fatal(was, toldAuto(a), toldAuto(b), other, must)
			}
			if again := ask(a, b).String(); again != must {
				t.Fatal(was, again, must)
			}
		}
	}
}

// roomy tells an automaton whose lists have spare room, in which other things stand.
func roomy(a api.Auto) api.Auto {
	return api.Auto{
		Props:  a.Props,
		Accept: append(slices.Clip(a.Accept), true, false, true)[:len(a.Accept)],
		Guard:  append(slices.Clip(a.Guard), 99, -99, 0)[:len(a.Guard)],
		Nodes:  append(slices.Clip(a.Nodes), api.Node{P: 9, Lo: 9, Hi: 9}, api.Node{}, api.Node{P: -1, Lo: -1, Hi: -1})[:len(a.Nodes)],
	}
}

// whole tells an automaton with what stands in its spare room.
func whole(a api.Auto) api.Auto {
	return api.Auto{Props: a.Props, Accept: a.Accept[:len(a.Accept)+3], Guard: a.Guard[:len(a.Guard)+3], Nodes: a.Nodes[:len(a.Nodes)+3]}
}

func TestNothingHandedInIsChangedOrReadBehindItsEnd(t *testing.T) {
	t.Parallel()
	chance := rand.New(rand.NewSource(18))
	for range 200 {
		a, b := growPair(chance, chance.Intn(4), 6)
		a, b = roomy(a), roomy(b)
		was := toldAuto(whole(a)) + toldAuto(whole(b))
		asTheModelSays(t, a, b)
		spoilAll(t, ask(a, b))
		spoilAll(t, ask(a, a))
		// One that may not be is refused as it is, whatever stands behind its end.
		short := a
		short.Guard = a.Guard[:len(a.Guard)-1]
		noAuto(t, short)
		noPair(t, b, short, api.ErrAuto)
		if toldAuto(whole(a))+toldAuto(whole(b)) != was {
			t.Fatal(was, toldAuto(whole(a)), toldAuto(whole(b)))
		}
	}
}

func TestNothingHandedInIsKept(t *testing.T) {
	a, b := ends(), some(1)
	x := ask(a, b)
	must := x.String()
	spoil(a.Accept, false)
	spoil(a.Guard, -1)
	spoil(a.Nodes, api.Node{})
	spoil(b.Accept, true)
	if x.String() != must {
		t.Error(x, must)
	}
	// What is asked behind it is of what stands there now.
	noAuto(t, a)
	a.Nodes = nil
	parts(t, a, b, "")
	parts(t, a, never(1), none)
	parts(t, b, always(1), none)
	if again := ask(ends(), some(1)).String(); again != must {
		t.Error(again, must)
	}
}

func TestNilAndEmptyAreTheSame(t *testing.T) {
	for _, l := range [][]api.Node{nil, {}, make([]api.Node, 0, 8)} {
		a := api.Auto{Props: 2, Accept: bools("01"), Guard: []int{-2, -2}, Nodes: l}
		for _, other := range [][]api.Node{nil, {}, make([]api.Node, 0, 8)} {
			b := api.Auto{Props: 2, Accept: bools("0"), Guard: []int{-1}, Nodes: other}
			fs := puttings()
			puts(t, fs[0], a, b, never(2))
			puts(t, fs[1], a, b, never(2))
			puts(t, fs[2], a, b, some(2))
			puts(t, fs[3], a, b, some(2))
			parts(t, a, b, "0")
			parts(t, a, some(2), none)
			implies(t, b, a, true)
		}
		for _, guards := range [][]int{nil, {}} {
			noAuto(t, api.Auto{Props: 2, Accept: nil, Guard: guards, Nodes: l})
			noAuto(t, api.Auto{Props: 2, Accept: []bool{}, Guard: guards, Nodes: l})
			noAuto(t, api.Auto{Props: 2, Accept: bools("1"), Guard: guards, Nodes: l})
		}
	}
}

// odd tells a number such as no one asks for.
func odd(chance *rand.Rand) int {
	switch chance.Intn(6) {
	case 0:
		return chance.Intn(12) - 4
	case 1:
		return []int{math.MinInt, math.MaxInt, math.MinInt + 1, math.MaxInt - 1, 1 << 20, -1 << 20, 1 << 32, -1 << 32, 1024, 1025}[chance.Intn(10)]
	case 2:
		return int(chance.Uint64())
	}
	return chance.Intn(6) - 3
}

// oddAuto tells an automaton that may be, or such as no one asks for.
func oddAuto(chance *rand.Rand) api.Auto {
	if chance.Intn(4) > 0 {
		return growAuto(chance, chance.Intn(3), 1+chance.Intn(3), 2)
	}
	a := api.Auto{Props: odd(chance), Accept: make([]bool, chance.Intn(4)), Guard: make([]int, chance.Intn(4)), Nodes: make([]api.Node, chance.Intn(3))}
	for i := range a.Guard {
		a.Guard[i] = odd(chance)
	}
	for i := range a.Nodes {
		a.Nodes[i] = api.Node{P: odd(chance), Lo: odd(chance), Hi: odd(chance)}
	}
	return a
}

func TestCallsAreCalm(t *testing.T) {
	t.Parallel()
	chance := rand.New(rand.NewSource(19))
	met := map[api.Errno]int{}
	for range 10000 {
		a, b := oddAuto(chance), oddAuto(chance)
		must := api.OK
		switch {
		case guard.Check(a) != api.OK || guard.Check(b) != api.OK:
			must = api.ErrAuto
		case a.Props != b.Props:
			must = api.ErrArg
		}
		met[must]++
		if must != api.OK {
			noPair(t, a, b, must)
		}
		if c, err := both.Not(a); err != guard.Check(a) || bare(c) == (err == api.OK) {
			t.Fatal(toldAuto(a), toldAuto(c), err)
		}
		if must == api.OK && chance.Intn(4) == 0 {
			asTheModelSays(t, a, b)
		}
		if t.Failed() {
			t.FailNow()
		}
	}
	for _, err := range []api.Errno{api.OK, api.ErrArg, api.ErrAuto} {
		if met[err] < 1000 {
			t.Error(err, met[err])
		}
	}
}

func TestAnswersHangOnArgumentsAlone(t *testing.T) {
	t.Parallel()
	chance := rand.New(rand.NewSource(20))
	a, b := growAuto(chance, 2, 14, 3), growAuto(chance, 2, 15, 3)
	must := ask(a, b).String()
	var group sync.WaitGroup
	for range 8 {
		group.Go(func() {
			for range 5 {
				if ask(a, b).String() != must {
					t.Error("another answer at another time")
				}
			}
		})
	}
	group.Wait()
}
