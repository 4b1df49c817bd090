package watch_test

import (
	"math"
	"math/rand"
	"slices"
	"strconv"
	"strings"
	"sync"
	"testing"

	"rejoinder/api"
	"rejoinder/both"
	"rejoinder/canon"
	"rejoinder/compile"
	"rejoinder/guard"
	"rejoinder/lang"
	"rejoinder/letter"
	"rejoinder/watch"
)

// until tells the automaton a of the chapter's examples: p U q over p and q.
func until() api.Auto { return auto(2, "001", "2 -2 -3", "1 -2 -3; 1 -1 -3; 0 0 1") }

// ends tells the automaton of the traces that end with 1.
func ends() api.Auto { return auto(1, "01", "0 0", "0 -1 -2") }

// some tells the automaton of the traces that are not empty.
func some(n int) api.Auto { return api.Auto{Props: n, Accept: bools("01"), Guard: []int{-2, -2}} }

// never tells the automaton that accepts nothing.
func never(n int) api.Auto { return api.Auto{Props: n, Accept: bools("0"), Guard: []int{-1}} }

// always tells the automaton that accepts each trace, the empty one too.
func always(n int) api.Auto { return api.Auto{Props: n, Accept: bools("1"), Guard: []int{-1}} }

// made tells a new watch.
func made(t *testing.T, a api.Auto) *watch.Watch {
	t.Helper()
	w, err := watch.New(a)
	if w == nil || err != api.OK {
		t.Fatalf("New(%.300s) = %v %d", toldAuto(a), w != nil, err)
	}
	return w
}

// fed tells a watch of a trace.
func fed(t *testing.T, a api.Auto, tr []api.Letter) *watch.Watch {
	t.Helper()
	w := made(t, a)
	for i, l := range tr {
		if _, err := w.Feed(l); err != api.OK {
			t.Fatalf("Feed(%d), the letter %d of %.300s: %d", l, i, toldAuto(a), err)
		}
	}
	return w
}

// feeds takes a letter, of which so much must be told.
func feeds(t *testing.T, w *watch.Watch, l api.Letter, must api.Verdict) {
	t.Helper()
	if v, err := w.Feed(l); v != must || err != api.OK {
		t.Errorf("Feed(%d) = %d %d, not %d", l, v, err, must)
	}
}

// noFeed takes a letter, which must be refused.
func noFeed(t *testing.T, w *watch.Watch, l api.Letter, must api.Errno) {
	t.Helper()
	if v, err := w.Feed(l); v != 0 || err != must {
		t.Errorf("Feed(%d) = %d %d, not %d", l, v, err, must)
	}
}

// backs takes the last letter off: so much must be told then.
func backs(t *testing.T, w *watch.Watch, must api.Verdict) {
	t.Helper()
	if v, err := w.Back(); v != must || err != api.OK {
		t.Errorf("Back = %d %d, not %d", v, err, must)
	}
}

// noBack takes the last letter off, which must be refused.
func noBack(t *testing.T, w *watch.Watch, must api.Errno) {
	t.Helper()
	if v, err := w.Back(); v != 0 || err != must {
		t.Errorf("Back = %d %d, not %d", v, err, must)
	}
}

// off asks how far off it is, where -1 stands for what is missing.
func off(t *testing.T, w *watch.Watch, must int) {
	t.Helper()
	n, err := w.Off()
	good := n == must && err == api.OK
	if must < 0 {
		good = n == 0 && err == api.ErrMissing
	}
	if !good {
		t.Errorf("Off = %d %d, not %d", n, err, must)
	}
}

// stands asks a watch for all but what it does with letters: it must stand behind so many letters, in that state.
func stands(t *testing.T, w *watch.Watch, m *model, state, length int) {
	t.Helper()
	if w.Verdict() != m.told[state] || w.State() != state || w.Len() != length {
		t.Errorf("%.300s: Verdict %d State %d Len %d, not %d %d %d", toldAuto(m.a), w.Verdict(), w.State(), w.Len(), m.told[state], state, length)
	}
	off(t, w, m.off[state])
}

// behind asks a watch for all that stands behind a trace.
func behind(t *testing.T, w *watch.Watch, m *model, tr []api.Letter) {
	t.Helper()
	stands(t, w, m, m.after(tr), len(tr))
}

// tells asks Told, which must tell so.
func tells(t *testing.T, a api.Auto, must string) {
	t.Helper()
	if l, err := watch.Told(a); toldVerdicts(l) != must || err != api.OK {
		t.Errorf("Told(%.300s) = %.300s %d, not %.300s", toldAuto(a), toldVerdicts(l), err, must)
	}
}

// tellsAll asks All, which must tell so.
func tellsAll(t *testing.T, a api.Auto, tr []api.Letter, must string) {
	t.Helper()
	if l, err := watch.All(a, tr); toldVerdicts(l) != must || err != api.OK {
		t.Errorf("All(%.300s, %.60s) = %.300s %d, not %.300s", toldAuto(a), told(tr), toldVerdicts(l), err, must)
	}
}

// noAll asks All, which must refuse it.
func noAll(t *testing.T, a api.Auto, tr []api.Letter, must api.Errno) {
	t.Helper()
	if l, err := watch.All(a, tr); len(l) != 0 || err != must {
		t.Errorf("All(%.300s, %.60s) = %.300s %d, not %d", toldAuto(a), told(tr), toldVerdicts(l), err, must)
	}
}

// noAuto asks all of an automaton that may not be, whatever trace is told beside it.
func noAuto(t *testing.T, a api.Auto) {
	t.Helper()
	if guard.Check(a) != api.ErrAuto {
		t.Errorf("%.300s may be", toldAuto(a))
	}
	if w, err := watch.New(a); w != nil || err != api.ErrAuto {
		t.Errorf("New(%.300s) = %v %d", toldAuto(a), w != nil, err)
	}
	if l, err := watch.Told(a); len(l) != 0 || err != api.ErrAuto {
		t.Errorf("Told(%.300s) = %s %d", toldAuto(a), toldVerdicts(l), err)
	}
	for _, tr := range [][]api.Letter{nil, {0}, {255}, {0, 1, 200}, make([]api.Letter, 1024), make([]api.Letter, 1025)} {
		noAll(t, a, tr, api.ErrAuto)
	}
}

// asTheModelSays asks for all of an automaton, and of some traces.
func asTheModelSays(t *testing.T, a api.Auto, trs ...[]api.Letter) *model {
	t.Helper()
	m := newModel(a)
	tells(t, a, toldVerdicts(m.told))
	stands(t, made(t, a), m, 0, 0)
	for _, tr := range trs {
		tellsAll(t, a, tr, toldVerdicts(m.all(tr)))
		behind(t, fed(t, a, tr), m, tr)
	}
	if t.Failed() {
		t.FailNow()
	}
	return m
}

// compiled tells the automaton of a formula's text.
func compiled(t *testing.T, names []string, text string) api.Auto {
	t.Helper()
	a, fault := compile.Text(names, text)
	if fault.Err != api.OK {
		t.Fatal(text, fault)
	}
	return a
}

// The chapter's examples

func TestExamples(t *testing.T) {
	a := until()
	if !canon.Same(a, compiled(t, []string{"p", "q"}, "p U q")) {
		t.Fatal(toldAuto(a))
	}
	w := made(t, a)
	if w.Verdict() != api.No {
		t.Error(w.Verdict())
	}
	off(t, w, 1)
	feeds(t, w, 1, api.No)
	feeds(t, w, 2, api.Always)
	feeds(t, w, 0, api.Always)
	backs(t, w, api.Always)
	backs(t, w, api.No)
	feeds(t, w, 0, api.Never)
	off(t, w, -1)
	tellsAll(t, a, letters("1 2"), "NNa")
	noFeed(t, w, 4, api.ErrArg)
	noBack(t, made(t, a), api.ErrMissing)
	tells(t, a, "Nna")
}

// P21.1: automata that may not be

// sized tells an automaton of so many states without nodes.
func sized(states, guards int) api.Auto {
	a := api.Auto{Props: 2, Accept: make([]bool, states), Guard: make([]int, guards)}
	for i := range a.Guard {
		a.Guard[i] = -1 - i%max(states, 1)
	}
	return a
}

// nodesOf tells so many nodes of the proposition 0, each another one, of 65 states or more.
func nodesOf(many int) []api.Node {
	var l []api.Node
	for i := range many {
		lo, hi := i/64, i%64
		if hi >= lo {
			hi++
		}
		l = append(l, api.Node{P: 0, Lo: -1 - lo, Hi: -1 - hi})
	}
	return l
}

func TestAutomataThatMayNotBe(t *testing.T) {
	noAuto(t, api.Auto{})
	noAuto(t, api.Auto{Props: 1})
	// Propositions.
	for _, n := range []int{-1, 9, 64, math.MinInt, math.MaxInt} {
		noAuto(t, auto(n, "1", "-1", ""))
		noAuto(t, auto(n, "10", "0 0", "0 -1 -2"))
	}
	// States and guards.
	for _, c := range [][2]int{{0, 0}, {0, 1}, {1, 0}, {1, 2}, {2, 1}, {255, 256}, {256, 255}, {256, 257}, {257, 257}, {257, 256}, {1000, 1000}} {
		noAuto(t, sized(c[0], c[1]))
	}
	// Nodes.
	a := sized(80, 80)
	a.Nodes = nodesOf(4097)
	noAuto(t, a)
	a.Nodes = nodesOf(4096)
	tells(t, a, strings.Repeat("n", 80))
	// A node's proposition.
	for _, p := range []int{-1, 1, 2, 8, math.MinInt, math.MaxInt} {
		noAuto(t, api.Auto{Props: 1, Accept: bools("01"), Guard: []int{0, 0}, Nodes: []api.Node{{P: p, Lo: -1, Hi: -2}}})
	}
	noAuto(t, auto(0, "01", "0 0", "0 -1 -2"))
	// Both sides alike.
	noAuto(t, auto(2, "01", "0 0", "0 -1 -1"))
	noAuto(t, auto(2, "01", "1 1", "1 -1 -2; 0 0 0"))
	// A side that is no state, no lesser place, or of no greater proposition.
	for _, ref := range []int{-3, -4, math.MinInt, 1, 2, 4096, math.MaxInt, 0} {
		noAuto(t, api.Auto{Props: 2, Accept: bools("01"), Guard: []int{0, 0}, Nodes: []api.Node{{P: 0, Lo: ref, Hi: -2}, {P: 1, Lo: -1, Hi: -2}}})
		noAuto(t, api.Auto{Props: 2, Accept: bools("01"), Guard: []int{0, 0}, Nodes: []api.Node{{P: 0, Lo: -2, Hi: ref}, {P: 1, Lo: -1, Hi: -2}}})
	}
	noAuto(t, auto(2, "01", "1 1", "1 -1 -2; 1 -1 0"))
	noAuto(t, auto(2, "01", "1 1", "0 -1 -2; 1 0 -1"))
	// Nodes the same.
	noAuto(t, auto(1, "01", "0 1", "0 -1 -2; 0 -1 -2"))
	// Guards.
	for _, ref := range []int{1, 2, 4096, -3, -4, math.MinInt, math.MaxInt} {
		for at := range 2 {
			a := ends()
			a.Guard[at] = ref
			noAuto(t, a)
		}
	}
	// What is wrong is so too where no state comes to it.
	noAuto(t, auto(2, "01", "-1 -2", "0 -1 -1"))
	noAuto(t, auto(2, "01", "-1 -2", "2 -1 -2"))
	noAuto(t, auto(2, "01", "-1 9", ""))
}

// P21.1: New, Feed, Back

func TestANewWatchIsOfATraceWithoutLetters(t *testing.T) {
	for n := range 9 {
		for _, c := range []struct {
			a       api.Auto
			verdict api.Verdict
			off     int
		}{
			{never(n), api.Never, -1},
			{always(n), api.Always, 0},
			{some(n), api.No, 1},
			{lengths(n, "1"), api.Yes, 0},
			{lengths(n, "0"), api.Never, -1},
			{lengths(n, "0001"), api.No, 3},
			{round(n, "10"), api.Yes, 0},
			{round(n, "00001"), api.No, 4},
			{round(n, "1111"), api.Always, 0},
		} {
			w := made(t, c.a)
			if w.Verdict() != c.verdict || w.State() != 0 || w.Len() != 0 {
				t.Error(toldAuto(c.a), w.Verdict(), w.State(), w.Len())
			}
			off(t, w, c.off)
			noBack(t, w, api.ErrMissing)
		}
	}
}

func TestLettersThatAreNotOfThePropositions(t *testing.T) {
	for n := range 9 {
		a := round(n, "01101")
		m := newModel(a)
		w := made(t, a)
		came := 0
		for l := range 256 {
			if l < 1<<n {
				came++
				feeds(t, w, api.Letter(l), m.told[came%5])
			} else {
				noFeed(t, w, api.Letter(l), api.ErrArg)
			}
			stands(t, w, m, came%5, came)
		}
		if came != 1<<n {
			t.Error(n, came)
		}
		// A refused letter is none that Back takes off.
		for ; came > 0; came-- {
			backs(t, w, m.told[(came-1)%5])
		}
		noBack(t, w, api.ErrMissing)
	}
}

func TestJustSoManyLetters(t *testing.T) {
	for n := range 9 {
		a := round(n, "0010110")
		m := newModel(a)
		w := made(t, a)
		last := api.Letter(1<<n - 1)
		for i := range 1024 {
			feeds(t, w, last, m.told[(i+1)%7])
		}
		for range 3 {
			noFeed(t, w, last, api.ErrOver)
			noFeed(t, w, 0, api.ErrOver)
			stands(t, w, m, 1024%7, 1024)
			// One that is not of the propositions is told first.
			for l := 1 << n; l < 256; l++ {
				noFeed(t, w, api.Letter(l), api.ErrArg)
			}
			stands(t, w, m, 1024%7, 1024)
		}
		// Where one is taken off there is room for one.
		backs(t, w, m.told[1023%7])
		feeds(t, w, 0, m.told[1024%7])
		noFeed(t, w, 0, api.ErrOver)
		for i := 1023; i >= 0; i-- {
			backs(t, w, m.told[i%7])
			stands(t, w, m, i%7, i)
		}
		for range 3 {
			noBack(t, w, api.ErrMissing)
			stands(t, w, m, 0, 0)
		}
		feeds(t, w, 0, m.told[1])
	}
}

func TestLettersThatComeBehindABack(t *testing.T) {
	w := made(t, until())
	m := newModel(until())
	for range 3 {
		feeds(t, w, 0, api.Never)
		feeds(t, w, 3, api.Never)
		backs(t, w, api.Never)
		backs(t, w, api.No)
		feeds(t, w, 1, api.No)
		feeds(t, w, 3, api.Always)
		backs(t, w, api.No)
		feeds(t, w, 0, api.Never)
		stands(t, w, m, 1, 2)
		backs(t, w, api.No)
		backs(t, w, api.No)
		noBack(t, w, api.ErrMissing)
		stands(t, w, m, 0, 0)
	}
}

// P21.1: Fork

func TestForkIsAWatchOfItsOwn(t *testing.T) {
	a := until()
	m := newModel(a)
	// Whatever room lists have, no two watches write into one.
	for many := range 70 {
		begun := slices.Repeat([]api.Letter{1}, many)
		w := fed(t, a, begun)
		one := w.Fork()
		other := w.Fork()
		for _, x := range []*watch.Watch{w, one, other} {
			behind(t, x, m, begun)
		}
		feeds(t, w, 1, api.No)
		feeds(t, one, 0, api.Never)
		feeds(t, other, 2, api.Always)
		stands(t, w, m, 0, many+1)
		stands(t, one, m, 1, many+1)
		stands(t, other, m, 2, many+1)
		further := one.Fork()
		for i := many; i >= 0; i-- {
			backs(t, one, api.No)
			stands(t, one, m, 0, i)
			stands(t, further, m, 1, many+1)
			stands(t, other, m, 2, many+1)
		}
		noBack(t, one, api.ErrMissing)
		for range many + 1 {
			feeds(t, one, 2, api.Always)
		}
		backs(t, w, api.No)
		backs(t, further, api.No)
		backs(t, other, api.No)
		stands(t, one, m, 2, many+1)
	}
}

func TestForkBehindABack(t *testing.T) {
	w := fed(t, until(), letters("1 1 1 2"))
	m := newModel(until())
	backs(t, w, api.No)
	backs(t, w, api.No)
	f := w.Fork()
	// What was taken off is not there for either of them.
	stands(t, f, m, 0, 2)
	feeds(t, f, 0, api.Never)
	feeds(t, w, 2, api.Always)
	feeds(t, w, 0, api.Always)
	stands(t, f, m, 1, 3)
	stands(t, w, m, 2, 4)
	backs(t, f, api.No)
	backs(t, f, api.No)
	backs(t, f, api.No)
	noBack(t, f, api.ErrMissing)
	stands(t, w, m, 2, 4)
}

func TestForkOfAWatchThatIsFull(t *testing.T) {
	a := round(1, "011")
	m := newModel(a)
	w := fed(t, a, make([]api.Letter, 1024))
	f := w.Fork()
	noFeed(t, f, 0, api.ErrOver)
	noFeed(t, f, 2, api.ErrArg)
	backs(t, w, m.told[1023%3])
	stands(t, f, m, 1024%3, 1024)
	noFeed(t, f, 0, api.ErrOver)
	feeds(t, w, 1, m.told[1024%3])
	noFeed(t, w, 1, api.ErrOver)
	for i := 1023; i >= 0; i-- {
		backs(t, f, m.told[i%3])
	}
	noBack(t, f, api.ErrMissing)
	stands(t, w, m, 1024%3, 1024)
	if again := f.Fork(); again == nil || again == f || again.Len() != 0 {
		t.Error("Fork of a watch without letters")
	}
}

func TestForksOfForks(t *testing.T) {
	a := chain(2, 60, 3, 0)
	m := newModel(a)
	list := []*watch.Watch{made(t, a)}
	for i := range 59 {
		f := list[i].Fork()
		feeds(t, f, 3, m.told[i+1])
		list = append(list, f)
	}
	for i, w := range list {
		stands(t, w, m, i, i)
	}
	for _, w := range list {
		w.Feed(0)
	}
	for i, w := range list {
		last := 0
		if i == 59 {
			last = 59
		}
		stands(t, w, m, last, i+1)
		backs(t, w, m.told[i])
		stands(t, w, m, i, i)
	}
}

// Rule 5

// noWatch asks all of a watch that is none.
func noWatch(t *testing.T, w *watch.Watch) {
	t.Helper()
	for range 2 {
		for _, l := range []api.Letter{0, 1, 2, 255} {
			noFeed(t, w, l, api.ErrNil)
		}
		noBack(t, w, api.ErrNil)
		if n, err := w.Off(); n != 0 || err != api.ErrNil {
			t.Errorf("Off = %d %d", n, err)
		}
		if w.Verdict() != api.No || w.State() != 0 || w.Len() != 0 {
			t.Errorf("Verdict %d State %d Len %d", w.Verdict(), w.State(), w.Len())
		}
		if w.Fork() != nil {
			t.Error("a Fork of none")
		}
	}
}

func TestAWatchThatIsNone(t *testing.T) {
	noWatch(t, nil)
	noWatch(t, &watch.Watch{})
	noWatch(t, new(watch.Watch))
	var w watch.Watch
	noWatch(t, &w)
	noWatch(t, &[]watch.Watch{{}, {}}[1])
	var within struct{ watch.Watch }
	noWatch(t, &within.Watch)
	refused, _ := watch.New(api.Auto{})
	noWatch(t, refused)
	noWatch(t, w.Fork())
}

func TestACopyIsNoWatch(t *testing.T) {
	m := newModel(until())
	w := fed(t, until(), letters("1 1 2"))
	c := *w
	noWatch(t, &c)
	stands(t, w, m, 2, 3)
	backs(t, w, api.No)
	noWatch(t, &c)
	feeds(t, w, 0, api.Never)
	noWatch(t, &c)
	f := w.Fork()
	c = *f
	noWatch(t, &c)
	stands(t, f, m, 1, 3)
	// One that is written over is none either: no function made it so.
	*f = watch.Watch{}
	noWatch(t, f)
	stands(t, w, m, 1, 3)
}

// P21.2: what is told, the state, how many letters, how far off

func TestWhatIsToldOfStates(t *testing.T) {
	for _, c := range []struct {
		props              int
		accept, rows, told string
		off                string
	}{
		{1, "0", "0 0", "n", "-1"},
		{1, "1", "0 0", "a", "0"},
		{1, "01", "1 1; 1 1", "Na", "1 0"},
		{1, "10", "1 1; 1 1", "Yn", "0 -1"},
		{1, "11", "1 1; 1 1", "aa", "0 0"},
		{1, "00", "1 1; 1 1", "nn", "-1 -1"},
		{1, "01", "0 1; 0 1", "NY", "1 0"},
		{1, "10", "0 1; 0 1", "YN", "0 1"},
		{1, "001", "1 2; 1 1; 2 2", "Nna", "1 -1 0"},
		// States to which no trace leads are told of, too.
		{1, "0101", "0 0; 1 1; 3 3; 2 2", "naNY", "-1 0 1 0"},
		{1, "1010", "0 0; 0 0; 1 1; 2 3", "aNYN", "0 1 0 1"},
		// Not of states alone that accept, one by one: all that are reached count.
		{1, "1110", "1 1; 2 2; 0 3; 3 3", "YYYn", "0 0 0 -1"},
		{1, "1110", "1 1; 2 2; 0 0; 3 0", "aaaN", "0 0 0 1"},
		{1, "0001", "1 1; 2 2; 0 3; 3 3", "NNNa", "3 2 1 0"},
		{1, "0001", "1 1; 2 2; 0 0; 3 0", "nnnY", "-1 -1 -1 0"},
		// Several ways, the shortest one counts; also one that goes through lesser states.
		{1, "000001", "1 4; 2 2; 3 3; 5 5; 1 5; 5 5", "NNNNNa", "2 3 2 1 1 0"},
		{1, "100000", "0 0; 0 2; 3 1; 4 4; 5 2; 5 5", "aNNNNn", "0 1 2 4 3 -1"},
		{0, "0010", "1; 2; 3; 3", "NNYn", "2 1 0 -1"},
		{0, "1101", "1; 2; 3; 3", "YYNa", "0 0 1 0"},
		{2, "010", "0 0 0 1; 2 2 1 1; 2 2 2 2", "NYn", "1 0 -1"},
		{2, "101", "0 1 2 2; 1 1 0 2; 2 2 2 2", "YNa", "0 1 0"},
	} {
		a := leads(c.props, c.accept, c.rows)
		tells(t, a, c.told)
		m := asTheModelSays(t, a)
		if told(m.off) != told(numbers(c.off)) {
			t.Error(toldAuto(a), m.off)
		}
	}
}

func TestHowFarOff(t *testing.T) {
	t.Parallel()
	for _, states := range []int{1, 2, 3, 100, 255, 256} {
		for _, back := range []int{0, states - 1, states / 2} {
			a := chain(1, states, 1, back)
			m := newModel(a)
			w := made(t, a)
			for s := range states {
				if s > 0 {
					feeds(t, w, 1, m.told[s])
				}
				stands(t, w, m, s, s)
				// By the other letter it is a letter more than from where that leads.
				off(t, w, min(states-1-s, states-back))
			}
			// Letter by letter it is as far off again.
			for s := states - 2; s >= 0; s-- {
				backs(t, w, m.told[s])
				stands(t, w, m, s, s)
			}
		}
	}
}

// P21.3: All, Told

func TestAllOfTracesThatMayNotBe(t *testing.T) {
	for n := range 9 {
		a := round(n, "011")
		noAll(t, a, make([]api.Letter, 1025), api.ErrLong)
		noAll(t, a, make([]api.Letter, 5000), api.ErrLong)
		tellsAll(t, a, make([]api.Letter, 1024), strings.Repeat("NYY", 342)[:1025])
		for l := 1 << n; l < 256; l++ {
			x := api.Letter(l)
			noAll(t, a, []api.Letter{x}, api.ErrArg)
			noAll(t, a, []api.Letter{0, 0, x}, api.ErrArg)
			noAll(t, a, []api.Letter{x, 0, 0}, api.ErrArg)
			// Too many are told ahead of one that is not of the propositions.
			noAll(t, a, append(make([]api.Letter, 1024), x), api.ErrLong)
			noAll(t, a, append([]api.Letter{x}, make([]api.Letter, 1024)...), api.ErrLong)
			noAll(t, a, append(make([]api.Letter, 1023), x), api.ErrArg)
		}
		for l := range 1 << n {
			tellsAll(t, a, []api.Letter{api.Letter(l)}, "NY")
		}
		tellsAll(t, a, nil, "N")
	}
}

func TestAllIsOfEachBeginning(t *testing.T) {
	for _, c := range []struct {
		a        api.Auto
		tr, must string
	}{
		{until(), "", "N"},
		{until(), "0", "Nn"},
		{until(), "1", "NN"},
		{until(), "2", "Na"},
		{until(), "3", "Na"},
		{until(), "1 1 1 0 2", "NNNNnn"},
		{until(), "1 1 1 3 0", "NNNNaa"},
		{ends(), "1 1 0 1 0 0", "NYYNYNN"},
		{ends(), "", "N"},
		{some(0), "0 0", "Naa"},
		{never(3), "7 0 5", "nnnn"},
		{always(3), "7 0 5", "aaaa"},
		{lengths(1, "0101"), "1 1 1 1 1", "NYNYnn"},
		{lengths(1, "1"), "0 0", "Ynn"},
	} {
		tellsAll(t, c.a, letters(c.tr), c.must)
		asTheModelSays(t, c.a, letters(c.tr))
	}
	// It is what a watch tells, letter by letter.
	chance := rand.New(rand.NewSource(1))
	for range 200 {
		n := chance.Intn(9)
		a := growAuto(chance, n, 1+chance.Intn(5), 2)
		tr := growTrace(chance, n, chance.Intn(30))
		w := made(t, a)
		l := []api.Verdict{w.Verdict()}
		for _, x := range tr {
			v, err := w.Feed(x)
			if v != w.Verdict() || err != api.OK {
				t.Fatal(v, w.Verdict(), err)
			}
			l = append(l, v)
		}
		tellsAll(t, a, tr, toldVerdicts(l))
	}
}

// Grown automata, as the model says

// growKind tells an automaton of any of the kinds that there are: of some all four verdicts are told.
func growKind(chance *rand.Rand, n, states int) api.Auto {
	few := 1 + chance.Intn(6)
	a := growAuto(chance, n, 1+chance.Intn(states), few)
	switch chance.Intn(4) {
	case 0:
		a = strayed(chance, n, 1+chance.Intn(states), few)
	case 1:
		a = blown(chance, a, len(a.Accept)+chance.Intn(4))
	case 2:
		a = sunk(chance, a)
	}
	if chance.Intn(4) == 0 {
		for s := range a.Accept {
			a.Accept[s] = !a.Accept[s]
		}
	}
	return shuffled(chance, a)
}

// sunk tells an automaton with two states more that are never left, of which the one accepts: now and then a letter leads to one of them.
func sunk(chance *rand.Rand, a api.Auto) api.Auto {
	rows := rowsOf(a)
	end := len(rows)
	for s := range rows {
		for l := range rows[s] {
			if chance.Intn(3) == 0 {
				rows[s][l] = end + chance.Intn(2)
			}
		}
	}
	for s := range 2 {
		rows = append(rows, slices.Repeat([]int{end + s}, 1<<a.Props))
	}
	return built(a.Props, append(slices.Clone(a.Accept), true, false), rows)
}

func TestGrownOnesAsTheModelSays(t *testing.T) {
	t.Parallel()
	chance := rand.New(rand.NewSource(2))
	met := map[api.Verdict]int{}
	for range 1500 {
		n := chance.Intn(5)
		a := growKind(chance, n, 8)
		m := asTheModelSays(t, a, growTrace(chance, n, chance.Intn(20)), growTrace(chance, n, chance.Intn(5)))
		for _, v := range m.told {
			met[v]++
		}
	}
	for v := range api.Verdict(4) {
		if met[v] < 300 {
			t.Error(v, met[v])
		}
	}
}

func TestManyStatesAsTheModelSays(t *testing.T) {
	t.Parallel()
	chance := rand.New(rand.NewSource(3))
	for _, states := range []int{100, 255, 256} {
		for _, few := range []int{2, 50, 400} {
			asTheModelSays(t, growAuto(chance, 1, states, few), growTrace(chance, 1, 1024))
			asTheModelSays(t, strayed(chance, 1, states, few), growTrace(chance, 1, 200))
		}
		asTheModelSays(t, chain(1, states, 0, states/2), growTrace(chance, 1, 1024))
		asTheModelSays(t, round(3, strings.Repeat("0", states-1)+"1"), growTrace(chance, 3, 1024))
		asTheModelSays(t, round(3, strings.Repeat("1", states-1)+"0"), growTrace(chance, 3, 1024))
	}
}

// held is a watch, and the letters that it should have.
type held struct {
	w  *watch.Watch
	tr []api.Letter
}

func TestManyWatchesThatGoOnByTurns(t *testing.T) {
	t.Parallel()
	chance := rand.New(rand.NewSource(4))
	for range 60 {
		n := chance.Intn(4)
		a := growKind(chance, n, 6)
		m := newModel(a)
		list := []held{{made(t, a), nil}, {made(t, a), nil}}
		for range 120 {
			x := &list[chance.Intn(len(list))]
			switch chance.Intn(6) {
			case 0, 1, 2:
				l := api.Letter(chance.Intn(1 << n))
				x.tr = append(x.tr, l)
				feeds(t, x.w, l, m.told[m.after(x.tr)])
			case 3:
				if len(x.tr) == 0 {
					noBack(t, x.w, api.ErrMissing)
					break
				}
				x.tr = x.tr[:len(x.tr)-1]
				backs(t, x.w, m.told[m.after(x.tr)])
			case 4:
				noFeed(t, x.w, api.Letter(1<<n+chance.Intn(256-1<<n)), api.ErrArg)
			case 5:
				if len(list) < 12 {
					list = append(list, held{x.w.Fork(), slices.Clone(x.tr)})
				}
			}
			for _, x := range list {
				behind(t, x.w, m, x.tr)
			}
			if t.Failed() {
				t.FailNow()
			}
		}
	}
}

// P21.4: what follows

// oneOf tells whether a verdict is one of some.
func oneOf(v api.Verdict, some ...api.Verdict) bool { return slices.Contains(some, v) }

func TestVerdictsByTracesAlone(t *testing.T) {
	t.Parallel()
	chance := rand.New(rand.NewSource(5))
	met := map[api.Verdict]int{}
	for range 250 {
		n := chance.Intn(3)
		// To each state one of at most as many letters leads as there are states but one.
		a := growKind(chance, n, 3)
		for len(a.Accept) > 5 || n == 2 && len(a.Accept) > 4 {
			a = growKind(chance, n, 3)
		}
		rests := traces(len(a.Accept)-1, 1<<n)
		for _, tr := range traces(2, 1<<n) {
			least, all, none := -1, true, true
			for _, rest := range rests {
				is := accepts(a, append(slices.Clip(tr), rest...))
				if is && least < 0 {
					least = len(rest)
				}
				all, none = all && is, none && !is
			}
			must := api.No
			switch {
			case all:
				must = api.Always
			case none:
				must = api.Never
			case accepts(a, tr):
				must = api.Yes
			}
			met[must]++
			w := fed(t, a, tr)
			if w.Verdict() != must {
				t.Fatal(toldAuto(a), tr, w.Verdict(), must)
			}
			off(t, w, least)
			if t.Failed() {
				t.FailNow()
			}
		}
	}
	for v := range api.Verdict(4) {
		if met[v] < 100 {
			t.Error(v, met[v])
		}
	}
}

func TestBehindAlwaysAndNeverNothingElseComes(t *testing.T) {
	t.Parallel()
	chance := rand.New(rand.NewSource(6))
	met := map[api.Verdict]int{}
	for range 300 {
		n := chance.Intn(4)
		a := growKind(chance, n, 7)
		w := made(t, a)
		for range 30 {
			was := w.Verdict()
			v, err := w.Feed(api.Letter(chance.Intn(1 << n)))
			if err != api.OK || oneOf(was, api.Always, api.Never) && v != was {
				t.Fatal(toldAuto(a), was, v, err)
			}
			met[was]++
		}
	}
	if met[api.Always] < 300 || met[api.Never] < 300 {
		t.Error(met)
	}
}

func TestAlwaysAndYesJustWhereTheTraceIsAccepted(t *testing.T) {
	t.Parallel()
	chance := rand.New(rand.NewSource(7))
	for range 300 {
		n := chance.Intn(9)
		a := growKind(chance, n, 5)
		w := made(t, a)
		var tr []api.Letter
		for range 12 {
			is, err := lang.Accepts(a, tr)
			far, errOff := w.Off()
			if err != api.OK || is != accepts(a, tr) || is != oneOf(w.Verdict(), api.Always, api.Yes) {
				t.Fatal(toldAuto(a), tr, w.Verdict(), is)
			}
			// It is 0 just then, and missing just where Never is told.
			if is != (far == 0 && errOff == api.OK) || (errOff == api.ErrMissing) != (w.Verdict() == api.Never) || !slices.Contains([]api.Errno{api.OK, api.ErrMissing}, errOff) {
				t.Fatal(toldAuto(a), tr, w.Verdict(), far, errOff)
			}
			l := api.Letter(chance.Intn(1 << n))
			tr = append(tr, l)
			w.Feed(l)
		}
	}
}

func TestALetterTakesItDownByOneAtMost(t *testing.T) {
	t.Parallel()
	chance := rand.New(rand.NewSource(8))
	many := 0
	for range 300 {
		n := chance.Intn(4)
		a := strayed(chance, n, 2+chance.Intn(12), 6)
		by := api.Letter(chance.Intn(1 << n))
		if chance.Intn(2) == 0 {
			states := 2 + chance.Intn(12)
			a = blown(chance, chain(n, states, by, chance.Intn(states)), states+chance.Intn(6))
		}
		w := made(t, a)
		for range 15 {
			far, err := w.Off()
			least := math.MaxInt
			for _, l := range letter.All(n) {
				f := w.Fork()
				f.Feed(l)
				after, errToo := f.Off()
				if errToo == api.OK {
					least = min(least, after)
				}
				// From where it is missing no letter leads anywhere else.
				if err != api.OK && errToo != api.ErrMissing {
					t.Fatal(toldAuto(a), w.State(), l, after, errToo)
				}
			}
			if err == api.OK && (least < far-1 || far > 0 && least != far-1) {
				t.Fatal(toldAuto(a), w.State(), far, least)
			}
			if far > 1 {
				many++
			}
			if chance.Intn(3) == 0 {
				by = api.Letter(chance.Intn(1 << n))
			}
			w.Feed(by)
		}
	}
	if many < 500 {
		t.Error(many)
	}
}

func TestTheLettersThatTakeItDownLeadThere(t *testing.T) {
	t.Parallel()
	chance := rand.New(rand.NewSource(9))
	for range 200 {
		n := 1 + chance.Intn(3)
		a := strayed(chance, n, 2+chance.Intn(20), 8)
		w := made(t, a)
		far, err := w.Off()
		tr, is, _ := lang.Shortest(a)
		if is != (err == api.OK) || len(tr) != far {
			t.Fatal(toldAuto(a), tr, is, far, err)
		}
		for i, l := range tr {
			w.Feed(l)
			off(t, w, far-1-i)
		}
	}
}

func TestBackBehindFeedIsNothing(t *testing.T) {
	t.Parallel()
	chance := rand.New(rand.NewSource(10))
	for range 200 {
		n := chance.Intn(4)
		a := growKind(chance, n, 6)
		m := newModel(a)
		w := made(t, a)
		var tr []api.Letter
		for range 20 {
			for _, l := range letter.All(n) {
				was := w.Verdict()
				w.Feed(l)
				backs(t, w, was)
				behind(t, w, m, tr)
			}
			l := api.Letter(chance.Intn(1 << n))
			tr = append(tr, l)
			w.Feed(l)
		}
		for len(tr) > 0 {
			tr = tr[:len(tr)-1]
			backs(t, w, m.told[m.after(tr)])
			behind(t, w, m, tr)
		}
	}
}

func TestToldOfTheSmallestIsTheSame(t *testing.T) {
	t.Parallel()
	chance := rand.New(rand.NewSource(11))
	for range 300 {
		n := chance.Intn(4)
		a := growKind(chance, n, 7)
		least, err := canon.Min(a)
		if err != api.OK {
			t.Fatal(err)
		}
		tr := growTrace(chance, n, chance.Intn(20))
		one, _ := watch.All(a, tr)
		tellsAll(t, least, tr, toldVerdicts(one))
		// Of the smallest one state at most is never left by what is told, each way.
		text := ""
		if l, err := watch.Told(least); err == api.OK {
			text = toldVerdicts(l)
		}
		if strings.Count(text, "n") > 1 || strings.Count(text, "a") > 1 {
			t.Fatal(toldAuto(least), text)
		}
		live, _ := lang.Live(a)
		l, _ := watch.Told(a)
		for s, is := range live {
			if is == (l[s] == api.Never) {
				t.Fatal(toldAuto(a), s, is, l[s])
			}
		}
	}
}

// turnedOf tells of what is not accepted what must be told.
func turnedOf(v api.Verdict) api.Verdict {
	return map[api.Verdict]api.Verdict{api.No: api.Yes, api.Yes: api.No, api.Never: api.Always, api.Always: api.Never}[v]
}

func TestWhatIsNotAcceptedIsToldTheOtherWay(t *testing.T) {
	t.Parallel()
	chance := rand.New(rand.NewSource(12))
	for range 300 {
		n := chance.Intn(4)
		a := growKind(chance, n, 7)
		not, err := both.Not(a)
		if err != api.OK {
			t.Fatal(err)
		}
		tr := growTrace(chance, n, 1+chance.Intn(15))
		one, _ := watch.All(a, tr)
		other, _ := watch.All(not, tr)
		// The empty trace is never accepted there.
		for i, v := range one {
			if i > 0 && other[i] != turnedOf(v) {
				t.Fatal(toldAuto(a), tr, one, other)
			}
		}
		if accepts(not, nil) || len(other) != len(one) || oneOf(other[0], api.Yes, api.Always) {
			t.Fatal(toldAuto(a), other)
		}
	}
}

func TestAutomataOfFormulas(t *testing.T) {
	names := []string{"p", "q"}
	for _, c := range []struct{ text, tr, must string }{
		{"p U q", "1 1 2 0", "NNNaa"},
		{"p U q", "1 0 2", "NNnn"},
		{"true", "0 1 2", "Naaa"},
		{"false", "0 1 2", "nnnn"},
		{"F last", "0 1 2", "Naaa"},
		{"p", "1 0", "Naa"},
		{"p", "2 1", "Nnn"},
		{"X p", "0 1 0", "NNaa"},
		{"X p", "0 2", "NNn"},
		{"N p", "0 1 0", "NYaa"},
		{"N p", "0 2", "NYn"},
		{"G p", "1 1 3 2 1", "NYYYnn"},
		{"F q", "1 0 2 0", "NNNaa"},
		{"G F p", "1 0 1 1 2", "NYNYYN"},
		{"last", "0 0 0", "NYnn"},
		{"X last", "0 0 0", "NNYn"},
		{"<({true} ; {true})*> last", "0 1 2 3 0", "NYNYNY"},
		{"F p & F q", "0 1 0 2 0", "NNNNaa"},
		{"G (p -> X q)", "0 1 2 1", "NYNYN"},
		{"G (p -> X q)", "1 1 0", "NNnn"},
		{"p R q", "2 2 3 0", "NYYaa"},
		{"p R q", "2 0", "NYn"},
	} {
		tellsAll(t, compiled(t, names, c.text), letters(c.tr), c.must)
	}
	// How far off it is at the beginning.
	for text, must := range map[string]int{"p": 1, "X p": 2, "X X q": 3, "X X X X last": 5, "F (p & X (q & X p))": 3, "false": -1, "last & X p": -1, "true": 1, "<({p} ; {q})*> last": 1} {
		off(t, made(t, compiled(t, names, text)), must)
	}
	// 62 positions on: no letter is told of but the last.
	a := compiled(t, []string{"p"}, strings.Repeat("X ", 62)+"p")
	tellsAll(t, a, slices.Repeat([]api.Letter{1}, 64), strings.Repeat("N", 63)+"aa")
	tellsAll(t, a, make([]api.Letter, 64), strings.Repeat("N", 63)+"nn")
	off(t, made(t, a), 63)
}

// No proposition, and 8 of them

func TestNoProposition(t *testing.T) {
	w := made(t, lengths(0, "0011"))
	for i, must := range []api.Verdict{api.No, api.Yes, api.Yes, api.Never, api.Never} {
		noFeed(t, w, 1, api.ErrArg)
		noFeed(t, w, 255, api.ErrArg)
		feeds(t, w, 0, must)
		if w.Len() != i+1 {
			t.Error(w.Len())
		}
	}
	tellsAll(t, lengths(0, "0011"), make([]api.Letter, 5), "NNYYnn")
	noAll(t, lengths(0, "0011"), letters("0 1"), api.ErrArg)
	for _, accept := range []string{"0", "1", "01", "10", "0110", "1111", "0000", "1000000"} {
		asTheModelSays(t, round(0, accept), make([]api.Letter, 30))
		asTheModelSays(t, lengths(0, accept), make([]api.Letter, 30))
	}
}

func TestEightPropositions(t *testing.T) {
	t.Parallel()
	chance := rand.New(rand.NewSource(13))
	names := strings.Fields("a b c d e f g h")
	for p, name := range names {
		a := compiled(t, names, "F "+name)
		for l := range 256 {
			must := "NN"
			if l>>p%2 == 1 {
				must = "Na"
			}
			tellsAll(t, a, []api.Letter{api.Letter(l)}, must)
		}
	}
	for range 10 {
		asTheModelSays(t, growAuto(chance, 8, 12, 3), growTrace(chance, 8, 300))
	}
	for _, l := range []api.Letter{0, 1, 128, 254, 255} {
		// One letter of 256 alone leads on.
		a := chain(8, 30, l, 0)
		off(t, made(t, a), 29)
		w := fed(t, a, slices.Repeat([]api.Letter{l}, 28))
		off(t, w, 1)
		feeds(t, w, l^16, api.No)
		off(t, w, 29)
		backs(t, w, api.No)
		feeds(t, w, l, api.Always)
		off(t, w, 0)
	}
}

// crowded tells an automaton with 256 states that are all reached, and with just 4,096 nodes: by the letter 0 each leads to the next one, the last to itself, all else is by chance, as far as there is room for nodes.
func crowded(chance *rand.Rand) api.Auto {
	d := &decided{props: 8, refs: map[string]int{}}
	a := api.Auto{Props: 8}
	for s := range 256 {
		many := 8
		for len(d.nodes)+1<<many-1 > 4096 {
			many--
		}
		where := make([]int, 256)
		for l := range where {
			where[l] = chance.Intn(256)
		}
		where[0] = min(s+1, 255)
		for l := range where {
			where[l] = where[l>>(8-many)<<(8-many)]
		}
		a.Accept = append(a.Accept, s == 255)
		a.Guard = append(a.Guard, d.add(where))
	}
	a.Nodes = d.nodes
	return a
}

func TestAsManyStatesAndNodesAsThereMayBe(t *testing.T) {
	t.Parallel()
	chance := rand.New(rand.NewSource(14))
	a := crowded(chance)
	if len(a.Accept) != 256 || len(a.Nodes) != 4096 || guard.Check(a) != api.OK {
		t.Fatal(len(a.Accept), len(a.Nodes))
	}
	m := asTheModelSays(t, a, make([]api.Letter, 1024), growTrace(chance, 8, 1024))
	tells(t, a, strings.Repeat("N", 255)+"a")
	w := made(t, a)
	for s := 1; s < 256; s++ {
		feeds(t, w, 0, m.told[s])
		stands(t, w, m, s, s)
	}
	// From all states but the first ones just one letter leads on.
	a.Accept[0] = true
	asTheModelSays(t, a, growTrace(chance, 8, 1024))
}

// P1, and the rules

// spoil writes over a list, and over its spare room.
func spoil[T any](l []T, with T) {
	l = l[:cap(l)]
	for i := range l {
		l[i] = with
	}
}

// spoilAuto writes over all lists of an automaton.
func spoilAuto(a api.Auto) {
	spoil(a.Accept, true)
	spoil(a.Guard, -1)
	spoil(a.Nodes, api.Node{P: 77, Lo: 77, Hi: 77})
}

func TestAnswersShareNoMemory(t *testing.T) {
	t.Parallel()
	chance := rand.New(rand.NewSource(15))
	for range 200 {
		n := chance.Intn(3)
		a := growKind(chance, n, 5)
		tr := growTrace(chance, n, chance.Intn(12))
		wasAuto, wasTrace := toldAuto(a), told(tr)
		m := newModel(a)
		w := fed(t, a, tr)
		for range 3 {
			one, _ := watch.All(a, tr)
			other, _ := watch.All(a, tr)
			of, _ := watch.Told(a)
			again, _ := watch.Told(a)
			spoil(one, 77)
			spoil(of, 77)
			if toldVerdicts(other) != toldVerdicts(m.all(tr)) || toldVerdicts(again) != toldVerdicts(m.told) {
				t.Fatal(other, again)
			}
			tellsAll(t, a, tr, toldVerdicts(m.all(tr)))
			tells(t, a, toldVerdicts(m.told))
			behind(t, w, m, tr)
		}
		if toldAuto(a) != wasAuto || told(tr) != wasTrace {
			t.Fatal(wasAuto, toldAuto(a), wasTrace, told(tr))
		}
	}
}

// roomy tells an automaton whose lists have spare room, in which other things stand.
func roomy(a api.Auto) api.Auto {
	return api.Auto{
		Props:  a.Props,
		Accept: append(slices.Clip(a.Accept), true, false, true)[:len(a.Accept)],
		Guard:  append(slices.Clip(a.Guard), 99, -99, 0)[:len(a.Guard)],
		Nodes:  append(slices.Clip(a.Nodes), api.Node{P: 9, Lo: 9, Hi: 9}, api.Node{}, api.Node{P: -1, Lo: -1, Hi: -1})[:len(a.Nodes)],
	}
}

// whole tells an automaton with what stands in its spare room.
func whole(a api.Auto) api.Auto {
	return api.Auto{Props: a.Props, Accept: a.Accept[:len(a.Accept)+3], Guard: a.Guard[:len(a.Guard)+3], Nodes: a.Nodes[:len(a.Nodes)+3]}
}

func TestNothingHandedInIsChangedOrReadBehindItsEnd(t *testing.T) {
	t.Parallel()
	chance := rand.New(rand.NewSource(16))
	for range 200 {
		n := chance.Intn(4)
		a := roomy(growKind(chance, n, 6))
		tr := append(growTrace(chance, n, chance.Intn(9)), 255, 0, 77)
		was, wasTrace := toldAuto(whole(a)), told(tr)
		short := tr[:len(tr)-3]
		m := asTheModelSays(t, a, short)
		w := fed(t, a, short)
		f := w.Fork()
		w.Feed(0)
		w.Back()
		behind(t, f, m, short)
		of, _ := watch.All(a, short)
		spoil(of, 77)
		of, _ = watch.Told(a)
		spoil(of, 77)
		// One that may not be is refused as it is, whatever stands behind its end.
		less := a
		less.Guard = a.Guard[:len(a.Guard)-1]
		noAuto(t, less)
		if toldAuto(whole(a)) != was || told(tr) != wasTrace {
			t.Fatal(was, toldAuto(whole(a)), wasTrace, told(tr))
		}
	}
}

func TestNothingHandedInIsKept(t *testing.T) {
	t.Parallel()
	chance := rand.New(rand.NewSource(17))
	for range 200 {
		n := chance.Intn(4)
		a := growKind(chance, n, 6)
		m := newModel(shuffled(chance, a))
		tr := growTrace(chance, n, chance.Intn(9))
		fresh, w := made(t, a), fed(t, a, tr)
		f := w.Fork()
		all, _ := watch.All(a, tr)
		of, _ := watch.Told(a)
		spoilAuto(a)
		a.Props = 0
		for i, x := range []*watch.Watch{w, f, f.Fork()} {
			behind(t, x, m, tr)
			more := append(slices.Clip(tr), growTrace(chance, n, 5+i)...)
			for j := range 5 + i {
				feeds(t, x, more[len(tr)+j], m.told[m.after(more[:len(tr)+j+1])])
			}
			behind(t, x, m, more)
			for j := len(more) - 1; j >= 0; j-- {
				backs(t, x, m.told[m.after(more[:j])])
				behind(t, x, m, more[:j])
			}
		}
		stands(t, fresh, m, 0, 0)
		if toldVerdicts(all) != toldVerdicts(m.all(tr)) || toldVerdicts(of) != toldVerdicts(m.told) {
			t.Fatal(all, of)
		}
		// What is asked behind it is of what stands there now.
		if len(a.Nodes) > 0 {
			noAuto(t, a)
		}
		a.Nodes = nil
		tells(t, a, strings.Repeat("a", len(a.Accept)))
		if t.Failed() {
			t.FailNow()
		}
	}
}

func TestNilAndEmptyAreTheSame(t *testing.T) {
	for _, l := range [][]api.Node{nil, {}, make([]api.Node, 0, 8)} {
		a := api.Auto{Props: 2, Accept: bools("01"), Guard: []int{-2, -2}, Nodes: l}
		tells(t, a, "Na")
		w := made(t, a)
		spoil(l, api.Node{P: 1, Lo: 5, Hi: 5})
		feeds(t, w, 3, api.Always)
		for _, tr := range [][]api.Letter{nil, {}, make([]api.Letter, 0, 8)} {
			tellsAll(t, a, tr, "N")
		}
		for _, guards := range [][]int{nil, {}} {
			noAuto(t, api.Auto{Props: 2, Accept: nil, Guard: guards, Nodes: l})
			noAuto(t, api.Auto{Props: 2, Accept: []bool{}, Guard: guards, Nodes: l})
			noAuto(t, api.Auto{Props: 2, Accept: bools("1"), Guard: guards, Nodes: l})
		}
	}
}

// odd tells a number such as no one asks for.
func odd(chance *rand.Rand) int {
	switch chance.Intn(6) {
	case 0:
		return chance.Intn(12) - 4
	case 1:
		return []int{math.MinInt, math.MaxInt, math.MinInt + 1, math.MaxInt - 1, 1 << 20, -1 << 20, 1 << 32, -1 << 32, 1024, 1025}[chance.Intn(10)]
	case 2:
		return int(chance.Uint64())
	}
	return chance.Intn(6) - 3
}

// oddAuto tells an automaton that may be, or such as no one asks for.
func oddAuto(chance *rand.Rand) api.Auto {
	if chance.Intn(3) > 0 {
		return growAuto(chance, chance.Intn(4), 1+chance.Intn(4), 2)
	}
	a := api.Auto{Props: odd(chance), Accept: make([]bool, chance.Intn(4)), Guard: make([]int, chance.Intn(4)), Nodes: make([]api.Node, chance.Intn(3))}
	for i := range a.Guard {
		a.Guard[i] = odd(chance)
	}
	for i := range a.Nodes {
		a.Nodes[i] = api.Node{P: odd(chance), Lo: odd(chance), Hi: odd(chance)}
	}
	return a
}

func TestCallsAreCalm(t *testing.T) {
	t.Parallel()
	chance := rand.New(rand.NewSource(18))
	met := map[api.Errno]int{}
	for range 10000 {
		a := oddAuto(chance)
		tr := growTrace(chance, 8, []int{0, 1, 2, 3, 1024, 1025}[chance.Intn(6)])
		few := chance.Intn(4)
		for i := range tr {
			tr[i] &= api.Letter(1<<few - 1)
		}
		w, err := watch.New(a)
		if err != guard.Check(a) || (w == nil) != (err == api.ErrAuto) {
			t.Fatal(toldAuto(a), err)
		}
		must := err
		if err == api.OK {
			must = letter.Trace(a.Props, tr)
		}
		met[must]++
		if err != api.OK {
			noAuto(t, a)
			noWatch(t, w)
		} else if must != api.OK {
			noAll(t, a, tr, must)
		} else if l, err := watch.All(a, tr); len(l) != len(tr)+1 || err != api.OK {
			t.Fatal(toldAuto(a), len(tr), len(l), err)
		}
		for i := 0; i < 20 && w != nil; i++ {
			l := api.Letter(odd(chance))
			if _, err := w.Feed(l); (err == api.OK) != letter.Fits(a.Props, l) {
				t.Fatal(toldAuto(a), l, err)
			}
			length := w.Len()
			if _, err := w.Back(); (err == api.OK) != (length > 0) {
				t.Fatal(toldAuto(a), length, err)
			}
			if chance.Intn(2) == 0 {
				w.Feed(0)
			}
			w = w.Fork()
		}
		if t.Failed() {
			t.FailNow()
		}
	}
	for _, err := range []api.Errno{api.OK, api.ErrArg, api.ErrAuto, api.ErrLong} {
		if met[err] < 500 {
			t.Error(err, met[err])
		}
	}
}

func TestAnswersHangOnArgumentsAlone(t *testing.T) {
	t.Parallel()
	chance := rand.New(rand.NewSource(19))
	a := growAuto(chance, 2, 30, 5)
	m := newModel(a)
	begun := growTrace(chance, 2, 50)
	tr := growTrace(chance, 2, 40)
	w := fed(t, a, begun)
	must := toldVerdicts(m.all(slices.Concat(begun, tr))[51:])
	var group sync.WaitGroup
	for i := range 8 {
		group.Go(func() {
			for range 20 {
				// All of them fork one watch, which none of them feeds.
				f := w.Fork()
				var l []api.Verdict
				for _, x := range tr {
					v, _ := f.Feed(x)
					l = append(l, v)
				}
				for range 40 + i {
					f.Back()
				}
				if toldVerdicts(l) != must || f.Len() != 50-i {
					t.Error("another answer at another time: " + strconv.Itoa(f.Len()))
				}
				if l, err := watch.Told(a); toldVerdicts(l) != toldVerdicts(m.told) || err != api.OK {
					t.Error(l, err)
				}
			}
		})
	}
	group.Wait()
	behind(t, w, m, begun)
}
