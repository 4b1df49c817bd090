package part_test

import (
	"math"
	"math/rand"
	"slices"
	"strconv"
	"sync"
	"testing"

	"rejoinder/api"
	"rejoinder/det"
	"rejoinder/guard"
	"rejoinder/kernel"
	"rejoinder/parse"
	"rejoinder/part"
)

// three tells the automaton of the chapter's examples.
func three() api.Auto {
	return auto(1, "011", "0 1 0", "0 -1 -2; 0 -1 -3")
}

// classes asks Classes, which must tell so.
func classes(t *testing.T, a api.Auto, must string) {
	t.Helper()
	if of, err := part.Classes(a); !slices.Equal(of, numbers(must)) || err != api.OK {
		t.Errorf("Classes of %.200s = %s %d, not %s", toldAuto(a), told(of), err, must)
	}
}

// reached asks Reached, which must tell so.
func reached(t *testing.T, a api.Auto, must string) {
	t.Helper()
	if l, err := part.Reached(a); !slices.Equal(l, numbers(must)) || err != api.OK {
		t.Errorf("Reached of %.200s = %s %d, not %s", toldAuto(a), told(l), err, must)
	}
}

// apart asks Alike and Parts of two states, in both orders, which must be parted by this trace.
func apart(t *testing.T, a api.Auto, p, q int, must []api.Letter) {
	t.Helper()
	for range 2 {
		if is, err := part.Alike(a, p, q); is || err != api.OK {
			t.Errorf("Alike(%.200s, %d, %d) = %t %d", toldAuto(a), p, q, is, err)
		}
		if tr, is, err := part.Parts(a, p, q); !slices.Equal(tr, must) || !is || err != api.OK {
			t.Errorf("Parts(%.200s, %d, %d) = %v %t %d, not %v", toldAuto(a), p, q, tr, is, err, must)
		}
		p, q = q, p
	}
}

// alike asks Alike and Parts of two states, in both orders, which must be alike.
func alike(t *testing.T, a api.Auto, p, q int) {
	t.Helper()
	for range 2 {
		if is, err := part.Alike(a, p, q); !is || err != api.OK {
			t.Errorf("Alike(%.200s, %d, %d) = %t %d", toldAuto(a), p, q, is, err)
		}
		if tr, is, err := part.Parts(a, p, q); len(tr) != 0 || is || err != api.OK {
			t.Errorf("Parts(%.200s, %d, %d) = %v %t %d", toldAuto(a), p, q, tr, is, err)
		}
		p, q = q, p
	}
}

// notTwo asks of two states, which must be refused.
func notTwo(t *testing.T, a api.Auto, p, q int, must api.Errno) {
	t.Helper()
	if is, err := part.Alike(a, p, q); is || err != must {
		t.Errorf("Alike(%.200s, %d, %d) = %t %d, not %d", toldAuto(a), p, q, is, err, must)
	}
	if tr, is, err := part.Parts(a, p, q); len(tr) != 0 || is || err != must {
		t.Errorf("Parts(%.200s, %d, %d) = %v %t %d, not %d", toldAuto(a), p, q, tr, is, err, must)
	}
}

// noAuto asks all of an automaton that may not be: whatever states are asked for, this is told.
func noAuto(t *testing.T, a api.Auto) {
	t.Helper()
	if guard.Check(a) != api.ErrAuto {
		t.Errorf("%.200s may be", toldAuto(a))
	}
	if of, err := part.Classes(a); len(of) != 0 || err != api.ErrAuto {
		t.Errorf("Classes of %.200s = %s %d", toldAuto(a), told(of), err)
	}
	if l, err := part.Reached(a); len(l) != 0 || err != api.ErrAuto {
		t.Errorf("Reached of %.200s = %s %d", toldAuto(a), told(l), err)
	}
	n := len(a.Accept)
	for _, p := range []int{0, 1, n - 1, n, n + 1, -1, 256, math.MinInt, math.MaxInt} {
		notTwo(t, a, p, 0, api.ErrAuto)
		notTwo(t, a, 0, p, api.ErrAuto)
		notTwo(t, a, p, p, api.ErrAuto)
	}
}

// asTheModelSays asks all that may be asked of an automaton, of some pairs.
func asTheModelSays(t *testing.T, a api.Auto, some [][2]int) *model {
	t.Helper()
	m := newModel(a)
	classes(t, a, told(m.classes()))
	reached(t, a, told(m.reached()))
	for _, x := range some {
		if m.alike(x[0], x[1]) {
			alike(t, a, x[0], x[1])
		} else {
			apart(t, a, x[0], x[1], m.parts(x[0], x[1]))
		}
	}
	if t.Failed() {
		t.Fatal(toldAuto(a))
	}
	return m
}

// allPairs tells all pairs of so many states, each once, a state with itself too.
func allPairs(states int) [][2]int {
	var l [][2]int
	for p := range states {
		for q := range p + 1 {
			l = append(l, [2]int{p, q})
		}
	}
	return l
}

// somePairs tells so many pairs of states.
func somePairs(chance *rand.Rand, states, many int) [][2]int {
	var l [][2]int
	for range many {
		l = append(l, [2]int{chance.Intn(states), chance.Intn(states)})
	}
	return l
}

// The chapter's examples

func TestExamples(t *testing.T) {
	classes(t, three(), "0 1 1")
	alike(t, three(), 1, 2)
	apart(t, three(), 0, 1, nil)
	notTwo(t, three(), 1, 3, api.ErrArg)
	reached(t, three(), "0 1 2")
	if a := leads(1, "011", "0 1; 0 2; 0 1"); toldAuto(a) != toldAuto(three()) {
		t.Error(toldAuto(a))
	}
}

// P16.1: what is refused

// sized tells an automaton of so many states without nodes.
func sized(states, guards int) api.Auto {
	a := api.Auto{Props: 2, Accept: make([]bool, states), Guard: make([]int, guards)}
	for i := range a.Guard {
		a.Guard[i] = -1 - i%max(states, 1)
	}
	return a
}

// nodesOf tells so many nodes of the proposition 0, each another one, of 65 states or more.
func nodesOf(many int) []api.Node {
	var l []api.Node
	for i := range many {
		lo, hi := i/64, i%64
		if hi >= lo {
			hi++
		}
		l = append(l, api.Node{P: 0, Lo: -1 - lo, Hi: -1 - hi})
	}
	return l
}

func TestAutomataThatMayNotBe(t *testing.T) {
	noAuto(t, api.Auto{})
	// Propositions.
	for _, n := range []int{-1, 9, 64, math.MinInt, math.MaxInt} {
		noAuto(t, auto(n, "1", "-1", ""))
		noAuto(t, auto(n, "10", "0 0", "0 -1 -2"))
	}
	// States and guards.
	for _, c := range [][2]int{{0, 0}, {0, 1}, {1, 0}, {1, 2}, {2, 1}, {255, 256}, {256, 255}, {256, 257}, {257, 257}, {257, 256}, {1000, 1000}} {
		noAuto(t, sized(c[0], c[1]))
	}
	// Nodes.
	a := sized(80, 80)
	a.Nodes = nodesOf(4097)
	noAuto(t, a)
	// A node's proposition.
	for _, p := range []int{-1, 1, 2, 8, math.MinInt, math.MaxInt} {
		noAuto(t, api.Auto{Props: 1, Accept: bools("01"), Guard: []int{0, 0}, Nodes: []api.Node{{P: p, Lo: -1, Hi: -2}}})
	}
	noAuto(t, auto(0, "01", "0 0", "0 -1 -2"))
	// Both sides alike.
	noAuto(t, auto(2, "01", "0 0", "0 -1 -1"))
	noAuto(t, auto(2, "01", "1 1", "1 -1 -2; 0 0 0"))
	// A side that is no state, no lesser place, or of no greater proposition.
	for _, ref := range []int{-3, -4, math.MinInt, 1, 2, 4096, math.MaxInt, 0} {
		noAuto(t, api.Auto{Props: 2, Accept: bools("01"), Guard: []int{0, 0}, Nodes: []api.Node{{P: 0, Lo: ref, Hi: -2}, {P: 1, Lo: -1, Hi: -2}}})
		noAuto(t, api.Auto{Props: 2, Accept: bools("01"), Guard: []int{0, 0}, Nodes: []api.Node{{P: 0, Lo: -2, Hi: ref}, {P: 1, Lo: -1, Hi: -2}}})
	}
	noAuto(t, auto(2, "01", "1 1", "1 -1 -2; 1 -1 0"))
	noAuto(t, auto(2, "01", "1 1", "0 -1 -2; 1 0 -1"))
	// Nodes the same.
	noAuto(t, auto(1, "01", "0 1", "0 -1 -2; 0 -1 -2"))
	// Guards.
	for _, ref := range []int{1, 2, 4096, -3, -4, math.MinInt, math.MaxInt} {
		for at := range 2 {
			a := auto(1, "01", "0 0", "0 -1 -2")
			a.Guard[at] = ref
			noAuto(t, a)
		}
	}
	// What is wrong is so too where no state comes to it.
	noAuto(t, auto(2, "01", "-1 -2", "0 -1 -1"))
	noAuto(t, auto(2, "01", "-1 -2", "2 -1 -2"))
	noAuto(t, auto(2, "01", "-1 9", ""))
}

func TestStatesThatAreNone(t *testing.T) {
	for _, n := range []int{1, 2, 3, 64, 255, 256} {
		a := sized(n, n)
		none := []int{-1, -2, -n, n, n + 1, 2 * n, 256, 257, 512, n + 256, n + 65536, 1 << 31, 1 << 32, 1<<32 + 1, -1 << 32, math.MinInt, math.MinInt + 1, math.MaxInt, math.MaxInt - 1}
		for _, p := range none {
			for _, q := range []int{0, n - 1, n / 2} {
				notTwo(t, a, p, q, api.ErrArg)
				notTwo(t, a, q, p, api.ErrArg)
			}
			for _, q := range none {
				notTwo(t, a, p, q, api.ErrArg)
			}
		}
		alike(t, a, 0, n-1)
		alike(t, a, n-1, n-1)
	}
}

// P16.1: Classes

func TestClasses(t *testing.T) {
	for _, c := range []struct {
		props              int
		accept, rows, must string
	}{
		// One state.
		{0, "0", "0", "0"},
		{0, "1", "0", "0"},
		{1, "0", "0 0", "0"},
		// What accepts alone parts them; one that does has the class 0 if it is the first.
		{0, "01", "0; 1", "0 1"},
		{0, "10", "0; 1", "0 1"},
		{0, "01", "1; 0", "0 1"},
		{0, "00", "1; 0", "0 0"},
		{0, "11", "1; 0", "0 0"},
		{0, "0110", "0; 1; 2; 3", "0 1 1 0"},
		{0, "1001", "1; 2; 3; 0", "0 1 2 3"},
		// A round behind, and another.
		{0, "001", "1; 2; 2", "0 1 2"},
		{0, "0001", "1; 2; 3; 3", "0 1 2 3"},
		{0, "1000", "0; 0; 1; 2", "0 1 2 3"},
		// Two ways to the same.
		{0, "0001", "1; 3; 3; 3", "0 1 1 2"},
		{0, "0001", "3; 0; 3; 3", "0 1 0 2"},
		// Two beside each other that never meet.
		{0, "0101", "1; 0; 3; 2", "0 1 0 1"},
		{0, "010101", "1; 2; 3; 4; 5; 0", "0 1 0 1 0 1"},
		{0, "001001", "1; 2; 3; 4; 5; 0", "0 1 2 0 1 2"},
		{0, "000001", "1; 2; 3; 4; 5; 0", "0 1 2 3 4 5"},
		// Which letter it is counts.
		{1, "0001", "3 0; 0 3; 3 0; 3 3", "0 1 0 2"},
		{2, "0000001", "6 0 0 0; 0 6 0 0; 0 0 6 0; 0 0 0 6; 5 6 5 0; 6 5 0 5; 6*4", "0 1 2 3 1 0 4"},
		// By another letter alone they are apart, to states that both do not accept.
		{1, "0001", "1 2; 1 1; 2 3; 3 3", "0 1 2 3"},
		// The first two are of the later class.
		{1, "1100", "2 0; 3 1; 3 0; 2 1", "0 0 1 1"},
		// States that no trace reaches have their class too, that of another, or one of their own.
		{1, "0101", "0 1; 1 1; 0 1; 3 0", "0 1 0 2"},
		{0, "0101", "0; 1; 0; 3", "0 1 0 1"},
		{0, "01", "0; 0", "0 1"},
		{0, "011", "0; 2; 1", "0 1 1"},
	} {
		a := leads(c.props, c.accept, c.rows)
		classes(t, a, c.must)
		asTheModelSays(t, a, allPairs(len(a.Accept)))
	}
}

func TestClassesAreNumberedByTheirLeastStates(t *testing.T) {
	chance := rand.New(rand.NewSource(1))
	for range 300 {
		small := growAuto(chance, chance.Intn(3), 1+chance.Intn(6), 2)
		a, of := blown(chance, small, len(small.Accept)+chance.Intn(12))
		of = newModel(small).named(of)
		// The class of a state that is the first of its class is one more than all ahead of it.
		var must []int
		seen := map[int]int{}
		for _, x := range of {
			if _, there := seen[x]; !there {
				seen[x] = len(seen)
			}
			must = append(must, seen[x])
		}
		classes(t, a, told(must))
	}
}

// named tells states as their classes.
func (m *model) named(states []int) []int {
	of := m.classes()
	var l []int
	for _, s := range states {
		l = append(l, of[s])
	}
	return l
}

// rising tells the numbers from 0 on.
func rising(many int) []int {
	var l []int
	for i := range many {
		l = append(l, i)
	}
	return l
}

func TestAllStatesAlike(t *testing.T) {
	t.Parallel()
	chance := rand.New(rand.NewSource(2))
	for _, n := range []int{1, 2, 255, 256} {
		for _, accept := range []bool{false, true} {
			for props := range 5 {
				rows := make([][]int, n)
				for s := range rows {
					for range 1 << props {
						rows[s] = append(rows[s], chance.Intn(n))
					}
				}
				a := built(props, slices.Repeat([]bool{accept}, n), rows)
				classes(t, a, "0*"+strconv.Itoa(n))
				alike(t, a, 0, n-1)
				alike(t, a, n/2, n/3)
			}
		}
	}
}

func TestNoTwoStatesAlike(t *testing.T) {
	t.Parallel()
	for _, n := range []int{2, 3, 255, 256} {
		for props := range 9 {
			// By each letter to the next state.
			rows := make([][]int, n)
			for s := range rows {
				rows[s] = slices.Repeat([]int{min(s+1, n-1)}, 1<<props)
			}
			accept := make([]bool, n)
			accept[n-1] = true
			a := built(props, accept, rows)
			classes(t, a, told(rising(n)))
			apart(t, a, 0, n-1, nil)
			apart(t, a, 0, 1, letters("0*"+strconv.Itoa(n-2)))
			// By the greatest letter alone.
			last := strconv.Itoa(1<<props - 1)
			a = chain(props, n, api.Letter(1<<props-1), 0)
			classes(t, a, told(rising(n)))
			apart(t, a, 0, 1, letters(last+"*"+strconv.Itoa(n-2)))
			reached(t, a, told(rising(n)))
		}
	}
	// The last state is the one that leads on to the state 0: the order of the numbers is that of the states, not of the rounds.
	back := make([]int, 256)
	for s := range back {
		back[s] = 255 - s
	}
	a := renamed(chain(8, 256, 77, 0), back)
	classes(t, a, told(rising(256)))
	apart(t, a, 255, 254, letters("77*254"))
	apart(t, a, 1, 2, letters("77"))
}

// coded tells an automaton of 256 states: from each of the first 252 the letters from 0 to 7 lead to the state 252, which accepts, as the bits of the state's number say, all others to the state 0; from the last two all letters lead to p, and to q.
func coded(p, q int) api.Auto {
	accept := make([]bool, 256)
	accept[252] = true
	rows := make([][]int, 256)
	for s := range rows {
		rows[s] = make([]int, 256)
		for bit := range 8 {
			if s>>bit%2 == 1 {
				rows[s][bit] = 252
			}
		}
	}
	rows[252] = slices.Repeat([]int{252}, 256)
	rows[253] = rows[252]
	rows[254] = slices.Repeat([]int{p}, 256)
	rows[255] = slices.Repeat([]int{q}, 256)
	return built(8, accept, rows)
}

func TestClassesThatAreAlmostTheSameNumber(t *testing.T) {
	t.Parallel()
	// All of the first states are parted by one letter; the last two by just one bit of the number of the class to which they lead.
	for bit := range 8 {
		for _, s := range []int{3, 101, 123} {
			other := s ^ 1<<bit
			a := coded(s, other)
			classes(t, a, told(rising(256)))
			apart(t, a, 254, 255, letters("0 "+strconv.Itoa(bit)))
			classes(t, coded(s, s), told(rising(255))+" 254")
			alike(t, coded(other, other), 254, 255)
		}
	}
}

// P16.1: Alike and Parts

func TestParts(t *testing.T) {
	for _, c := range []struct {
		props        int
		accept, rows string
		p, q         int
		must         string
	}{
		// Just one of both accepts.
		{0, "01", "0; 1", 0, 1, ""},
		{1, "0110", "3 3; 2 2; 1 1; 0 0", 3, 2, ""},
		// A letter behind, the least that does.
		{1, "0001", "3 3; 2 2; 2 2; 3 3", 0, 1, "0"},
		{1, "0001", "2 3; 2 2; 2 2; 3 3", 0, 1, "1"},
		{2, "0001", "2 2 3 3; 2 2 2 2; 2*4; 3*4", 0, 1, "2"},
		{2, "0001", "3 3 3 2; 3 3 3 3; 2*4; 3*4", 0, 1, "3"},
		// Both lead to where just one accepts, the one by the one letter, the other by the other.
		{1, "0001", "3 2; 2 3; 2 2; 3 3", 0, 1, "0"},
		// A shorter trace with a greater letter goes ahead of a longer one with lesser letters.
		{1, "000001", "2 5; 3 4; 5 5; 4 4; 4 4; 5 5", 0, 1, "1"},
		// Of two as short the first letter that is unlike counts, not the last one.
		{1, "00000001", "2 4; 3 5; 6 7; 6 6; 7 6; 6 6; 6 6; 7 7", 0, 1, "0 1"},
		// The least first letter leads to where none is as short.
		{1, "00000001", "2 4; 3 5; 0 0; 1 1; 7 6; 6 6; 6 6; 7 7", 0, 1, "1 0"},
		// A letter that leads both to the same state parts them no more.
		{1, "0001", "2 0; 2 3; 2 2; 3 3", 0, 1, "1"},
		// A letter that leads both to themselves, round and round, is none to begin with.
		{1, "0001", "0 1; 1 3; 2 2; 3 3", 0, 1, "1"},
		// The states change places, till another letter parts them.
		{1, "0001", "1 2; 0 3; 2 2; 3 3", 0, 1, "1"},
		// One letter alone: by how many it is counts.
		{0, "000001", "1; 2; 3; 4; 5; 5", 0, 1, "0*4"},
		{0, "000001", "1; 2; 3; 4; 5; 5", 2, 0, "0*3"},
		{0, "000001", "1; 2; 3; 4; 5; 0", 0, 3, "0 0"},
	} {
		a := leads(c.props, c.accept, c.rows)
		apart(t, a, c.p, c.q, letters(c.must))
		asTheModelSays(t, a, allPairs(len(a.Accept)))
	}
}

func TestEachStateIsLikeItself(t *testing.T) {
	t.Parallel()
	for _, a := range []api.Auto{three(), chain(1, 60, 1, 0), chain(8, 40, 255, 3), leads(0, "1", "0"), leads(0, "0", "0"), leads(0, "01", "1; 0")} {
		for s := range a.Accept {
			alike(t, a, s, s)
		}
	}
	for _, s := range []int{0, 1, 128, 254, 255} {
		alike(t, chain(8, 256, 3, 0), s, s)
	}
}

func TestStatesThatAreAlike(t *testing.T) {
	// Two ways round that never meet.
	a := leads(1, "001001", "1 0; 2 1; 0 2; 4 3; 5 4; 3 5")
	for s := range 3 {
		alike(t, a, s, s+3)
		apart(t, a, s, (s+1)%3, letters([]string{"0", "", ""}[s]))
		apart(t, a, s, (s+2)%3+3, letters([]string{"", "0", ""}[s]))
	}
	// Such as no trace reaches.
	a = leads(1, "0101", "0 1; 1 1; 2 3; 3 3")
	alike(t, a, 0, 2)
	alike(t, a, 1, 3)
	apart(t, a, 1, 2, nil)
	reached(t, a, "0 1")
	// Each changes places with the other for ever.
	a = leads(2, "00", "1*4; 0*4")
	alike(t, a, 0, 1)
}

func TestEachLetterOfEightPropositions(t *testing.T) {
	t.Parallel()
	for l := range 256 {
		// One letter alone is unlike.
		rows := [][]int{slices.Repeat([]int{2}, 256), slices.Repeat([]int{2}, 256), slices.Repeat([]int{2}, 256), slices.Repeat([]int{3}, 256)}
		rows[1][l] = 3
		a := built(8, bools("0001"), rows)
		apart(t, a, 0, 1, []api.Letter{api.Letter(l)})
		alike(t, a, 0, 2)
		classes(t, a, "0 1 0 2")
		reached(t, a, "0 2")
		// A lesser letter behind it is none the better; one ahead of it is.
		rows[0][l], rows[1][l], rows[2][0] = 1, 2, 3
		a = built(8, bools("0001"), rows)
		asTheModelSays(t, a, allPairs(4))
	}
}

func TestAllOfGrownAutomataAsTheModelSays(t *testing.T) {
	t.Parallel()
	chance := rand.New(rand.NewSource(3))
	lengths := map[int]int{}
	for range 2500 {
		n, states := chance.Intn(4), 1+chance.Intn(9)
		a := growAuto(chance, n, states, 1+chance.Intn(6))
		if chance.Intn(2) == 0 {
			a, _ = blown(chance, a, states+chance.Intn(10))
		}
		m := asTheModelSays(t, a, allPairs(len(a.Accept)))
		for p := range a.Accept {
			for q := range p {
				lengths[m.long[p][q]]++
			}
		}
	}
	for long := -1; long <= 4; long++ {
		if lengths[long] < 100 {
			t.Errorf("just %d pairs must be parted by %d letters", lengths[long], long)
		}
	}
}

func TestManyStatesAsTheModelSays(t *testing.T) {
	t.Parallel()
	chance := rand.New(rand.NewSource(4))
	for round := range 24 {
		n := []int{1, 2, 3, 8}[round%4]
		small := growAuto(chance, min(n, 3), 40+chance.Intn(60), 30)
		if n == 8 {
			small = growAuto(chance, 8, 8, 3)
		}
		states := 200 + chance.Intn(57)
		if n == 8 {
			states = 12
		}
		a, _ := blown(chance, small, states)
		asTheModelSays(t, a, somePairs(chance, states, 60))
		asTheModelSays(t, growAuto(chance, min(n, 3), 256, 60), somePairs(chance, 256, 60))
	}
}

// cards tells an automaton of so many states in which one letter moves all on by one, and another changes the first two: each pair leads to all others.
func cards(n, states int, accept []bool) api.Auto {
	rows := make([][]int, states)
	for s := range rows {
		for l := range 1 << n {
			to := (s + 1) % states
			if l%2 == 0 {
				to = []int{1, 0, s}[min(s, 2)]
			}
			rows[s] = append(rows[s], to)
		}
	}
	return built(n, accept, rows)
}

func TestAllPairsAreGoneThrough(t *testing.T) {
	t.Parallel()
	for _, n := range []int{1, 8} {
		a := cards(n, 256, make([]bool, 256))
		alike(t, a, 0, 1)
		alike(t, a, 17, 200)
		// One state alone accepts: many pairs are gone through ahead of one that is parted.
		accept := make([]bool, 256)
		accept[100] = true
		a = cards(n, 256, accept)
		asTheModelSays(t, a, [][2]int{{101, 102}, {101, 99}, {0, 255}, {100, 3}})
	}
}

// P16.2

func TestReached(t *testing.T) {
	for _, c := range []struct {
		props              int
		accept, rows, must string
	}{
		{0, "0", "0", "0"},
		{0, "1", "0", "0"},
		{3, "1", "0*8", "0"},
		// The state 0 alone, though others lead to it.
		{0, "000", "0; 0; 1", "0"},
		{1, "010", "0 0; 2 0; 1 1", "0"},
		// By rising letters, whatever the states' numbers.
		{1, "000", "1 2; 0 0; 0 0", "0 1 2"},
		{1, "000", "2 1; 0 0; 0 0", "0 2 1"},
		{2, "00000", "4 2 3 1; 0*4; 0*4; 0*4; 0*4", "0 4 2 3 1"},
		// State by state as they were met, not by their numbers, and not at once as deep as may be.
		{1, "00000", "3 1; 2 2; 0 0; 4 4; 0 0", "0 3 1 4 2"},
		{1, "00000", "1 3; 2 2; 0 0; 4 4; 0 0", "0 1 3 2 4"},
		{1, "000000", "5 5; 0 0; 1 1; 2 2; 3 3; 4 4", "0 5 4 3 2 1"},
		// The state 0 is met again, a state by several.
		{1, "0000", "0 2; 0 1; 2 1; 0 0", "0 2 1"},
		{1, "0000", "2 2; 2 3; 1 2; 1 0", "0 2 1 3"},
		// Which accept does not count.
		{1, "1111", "2 2; 2 3; 1 2; 1 0", "0 2 1 3"},
		{1, "0101", "2 2; 2 3; 1 2; 1 0", "0 2 1 3"},
		// Such as are alike are there all the same.
		{1, "011", "0 1; 0 2; 0 1", "0 1 2"},
		// Two rounds; the other one is not there.
		{1, "000000", "2 0; 3 1; 4 2; 5 3; 0 4; 1 5", "0 2 4"},
	} {
		a := leads(c.props, c.accept, c.rows)
		reached(t, a, c.must)
		asTheModelSays(t, a, nil)
	}
}

func TestReachedByEachLetter(t *testing.T) {
	t.Parallel()
	// By the letter l to a state of its own: all 255 others, as the letters say.
	chance := rand.New(rand.NewSource(5))
	for range 20 {
		to := chance.Perm(256)
		rows := make([][]int, 256)
		for s := range rows {
			rows[s] = slices.Repeat([]int{s}, 256)
		}
		rows[0] = to
		must := []int{0}
		for _, s := range to {
			if s != 0 {
				must = append(must, s)
			}
		}
		a := built(8, make([]bool, 256), rows)
		reached(t, a, told(must))
		// The same, from a state that the greatest letter alone leads to.
		as := rising(256)
		as[0], as[1] = 1, 0
		b := renamed(a, as)
		reached(t, b, "0")
		rows = nil
		for s := range 256 {
			rows = append(rows, slices.Repeat([]int{s}, 256))
		}
		rows[0][255] = 1
		for l, s := range to {
			rows[1][l] = as[s]
		}
		c := built(8, make([]bool, 256), rows)
		must = []int{0, 1}
		for _, s := range to {
			if as[s] > 1 {
				must = append(must, as[s])
			}
		}
		reached(t, c, told(must))
	}
}

func TestReachedByShortTraces(t *testing.T) {
	// Shorter traces first, else rising: in this order the states are met.
	chance := rand.New(rand.NewSource(6))
	for range 400 {
		n, states := chance.Intn(3), 1+chance.Intn(5)
		a := growAuto(chance, n, states, 2)
		var must []int
		for _, tr := range traces(states-1, 1<<n) {
			if s := after(a, 0, tr); !slices.Contains(must, s) {
				must = append(must, s)
			}
		}
		reached(t, a, told(must))
	}
}

// P16.3

// stable tells whether states of one class are both accepting or both not, and each letter leads them to one class.
func stable(a api.Auto, of []int) bool {
	for p := range of {
		for q := range p {
			if of[p] != of[q] {
				continue
			}
			if a.Accept[p] != a.Accept[q] {
				return false
			}
			for l := range 1 << a.Props {
				if of[next(a, p, api.Letter(l))] != of[next(a, q, api.Letter(l))] {
					return false
				}
			}
		}
	}
	return true
}

func TestNoPartingIntoFewerClasses(t *testing.T) {
	t.Parallel()
	chance := rand.New(rand.NewSource(7))
	fewer := 0
	for range 400 {
		n, states := chance.Intn(3), 1+chance.Intn(6)
		a := growAuto(chance, n, states, 1+chance.Intn(3))
		if chance.Intn(2) == 0 && states > 2 {
			a, _ = blown(chance, growAuto(chance, n, 2, 2), states)
		}
		of, err := part.Classes(a)
		if err != api.OK || !stable(a, of) {
			t.Fatal(toldAuto(a), of, err)
		}
		for _, other := range partings(states) {
			if stable(a, other) && !slices.Equal(of, other) && highest(other) <= highest(of) {
				t.Fatal(toldAuto(a), of, other)
			}
		}
		if highest(of) < states-1 {
			fewer++
		}
	}
	if fewer < 100 {
		t.Error(fewer)
	}
}

func TestWhatFollowsForManyStates(t *testing.T) {
	t.Parallel()
	chance := rand.New(rand.NewSource(8))
	for range 12 {
		n := chance.Intn(4)
		a, _ := blown(chance, growAuto(chance, n, 1+chance.Intn(100), 9), 256)
		of, err := part.Classes(a)
		if err != api.OK || !stable(a, of) {
			t.Fatal(toldAuto(a), of, err)
		}
		for _, x := range somePairs(chance, 256, 200) {
			p, q := x[0], x[1]
			is, err := part.Alike(a, p, q)
			if is != (of[p] == of[q]) || err != api.OK {
				t.Fatal(toldAuto(a), p, q, is, err)
			}
			tr, unlike, err := part.Parts(a, p, q)
			if unlike == is || err != api.OK || unlike && !parts(a, p, q, tr) {
				t.Fatal(toldAuto(a), p, q, tr, unlike, err)
			}
		}
		l, err := part.Reached(a)
		if err != api.OK || l[0] != 0 || len(l) > 256 {
			t.Fatal(toldAuto(a), l, err)
		}
		// No state stands twice, and from none of them a letter leads to any other.
		for i, s := range l {
			if slices.Contains(l[:i], s) {
				t.Fatal(toldAuto(a), l)
			}
			for x := range 1 << n {
				if !slices.Contains(l, next(a, s, api.Letter(x))) {
					t.Fatal(toldAuto(a), l)
				}
			}
		}
	}
}

func TestNoShorterAndNoLesserTraceParts(t *testing.T) {
	t.Parallel()
	chance := rand.New(rand.NewSource(9))
	for range 300 {
		n, states := chance.Intn(3), 2+chance.Intn(4)
		a := growAuto(chance, n, states, 1+chance.Intn(5))
		// Of so many states two that are not alike are parted by so many letters.
		all := traces(states-1, 1<<n)
		for _, x := range allPairs(states) {
			at := slices.IndexFunc(all, func(tr []api.Letter) bool { return parts(a, x[0], x[1], tr) })
			if at < 0 {
				alike(t, a, x[0], x[1])
			} else {
				apart(t, a, x[0], x[1], all[at])
			}
		}
	}
}

func TestNamesOfStatesDoNotCount(t *testing.T) {
	chance := rand.New(rand.NewSource(10))
	for range 200 {
		n, states := chance.Intn(4), 2+chance.Intn(12)
		a, _ := blown(chance, growAuto(chance, n, 1+chance.Intn(states), 3), states)
		as := chance.Perm(states)
		b := renamed(a, as)
		for _, x := range somePairs(chance, states, 10) {
			one, is, err := part.Parts(a, x[0], x[1])
			other, isToo, errToo := part.Parts(b, as[x[0]], as[x[1]])
			if !slices.Equal(one, other) || is != isToo || err != errToo {
				t.Fatal(toldAuto(a), as, x, one, other)
			}
			first, err := part.Alike(b, as[x[0]], as[x[1]])
			if first == is || err != api.OK {
				t.Fatal(toldAuto(b), first, is)
			}
		}
	}
}

func TestNodesInAnyOrder(t *testing.T) {
	t.Parallel()
	// Nodes that no state comes to, and such as stand in another order than a store's.
	same := []api.Auto{
		leads(2, "0110", "0 1 2 3; 3 3 2 1; 0 1 2 3; 3 3 2 1"),
		auto(2, "0110", "5 7 5 7", "1 -1 -4; 1 -2 -4; 1 -1 -3; 1 -2 -3; 1 -4 -2; 0 2 1; 1 -4 -3; 0 6 4; 0 -1 -2"),
	}
	for _, a := range same {
		for s := range 4 {
			if where, err := guard.Table(2, a.Nodes, a.Guard[s]); told(where) != []string{"0 1 2 3", "3 3 2 1"}[s%2] || err != api.OK {
				t.Fatal(where, err)
			}
		}
		asTheModelSays(t, a, allPairs(4))
		classes(t, a, "0 1 2 3")
		apart(t, a, 0, 3, letters("1"))
		reached(t, a, "0 1 2 3")
	}
	// As many nodes as may be, of which few are met.
	a := sized(256, 256)
	a.Accept[70], a.Props = true, 1
	a.Nodes = nodesOf(4096)
	a.Guard[0] = 4095
	asTheModelSays(t, a, somePairs(rand.New(rand.NewSource(11)), 256, 100))
	apart(t, a, 0, 70, nil)
	alike(t, a, 0, 63)
	reached(t, a, "0 63 64")
}

// automatonOf tells the automaton that det makes of a text.
func automatonOf(t *testing.T, names []string, text string) api.Auto {
	t.Helper()
	f, fault := parse.Formula(names, text)
	if fault.Err != api.OK {
		t.Fatal(text, fault)
	}
	k, err := kernel.Of(f)
	if err != api.OK {
		t.Fatal(text, err)
	}
	a, err := det.Of(len(names), k)
	if err != api.OK {
		t.Fatal(text, err)
	}
	return a
}

func TestAutomataOfFormulas(t *testing.T) {
	names := []string{"p", "q"}
	for _, c := range []struct {
		text string
		many int
	}{
		{"p U q", 3},
		{"<{p}*> q", 3},
		{"p", 3},
		{"G F p", 2},
		{"F (last & p)", 2},
		{"F last", 2},
		{"<({true} ; {true})*> last", 2},
		{"G p | F q", 3},
		{"!(p U q)", 3},
		{"G (p -> X q)", 3},
	} {
		a := automatonOf(t, names, c.text)
		m := asTheModelSays(t, a, allPairs(len(a.Accept)))
		if of := m.classes(); highest(of)+1 != c.many {
			t.Errorf("%s: %d classes, not %d: %s", c.text, highest(of)+1, c.many, toldAuto(a))
		}
		// All states of such an automaton are reached, in this order.
		reached(t, a, told(rising(len(a.Accept))))
	}
}

// P1, and the rules

// spoil writes over a list, and over its spare room.
func spoil[T any](l []T, with T) {
	l = l[:cap(l)]
	for i := range l {
		l[i] = with
	}
}

func TestAnswersShareNoMemory(t *testing.T) {
	t.Parallel()
	for _, a := range []api.Auto{three(), chain(8, 12, 9, 2), leads(0, "1", "0"), cards(1, 20, bools("01000000000000000000"))} {
		was := toldAuto(a)
		n := len(a.Accept)
		m := newModel(a)
		for range 3 {
			of, _ := part.Classes(a)
			other, _ := part.Classes(a)
			spoil(of, -7)
			if !slices.Equal(other, m.classes()) {
				t.Fatal(was, other)
			}
			l, _ := part.Reached(a)
			second, _ := part.Reached(a)
			spoil(l, -7)
			if !slices.Equal(second, m.reached()) {
				t.Fatal(was, second)
			}
			for p := range n {
				tr, is, _ := part.Parts(a, p, 0)
				again, isToo, _ := part.Parts(a, p, 0)
				spoil(tr, 7)
				if is != isToo || is == m.alike(p, 0) || is && !slices.Equal(again, m.parts(p, 0)) {
					t.Fatal(was, p, again)
				}
			}
			if toldAuto(a) != was {
				t.Fatal(was, toldAuto(a))
			}
			asTheModelSays(t, a, allPairs(n))
		}
	}
}

// roomy tells an automaton whose lists have spare room, in which other things stand.
func roomy(a api.Auto) api.Auto {
	return api.Auto{
		Props:  a.Props,
		Accept: append(slices.Clip(a.Accept), true, false, true)[:len(a.Accept)],
		Guard:  append(slices.Clip(a.Guard), 99, -99, 0)[:len(a.Guard)],
		Nodes:  append(slices.Clip(a.Nodes), api.Node{P: 9, Lo: 9, Hi: 9}, api.Node{}, api.Node{P: -1, Lo: -1, Hi: -1})[:len(a.Nodes)],
	}
}

func TestNothingHandedInIsChangedOrReadBehindItsEnd(t *testing.T) {
	chance := rand.New(rand.NewSource(12))
	for range 200 {
		states := 1 + chance.Intn(8)
		a := roomy(growAuto(chance, chance.Intn(4), states, 3))
		whole := api.Auto{Props: a.Props, Accept: a.Accept[:states+3], Guard: a.Guard[:states+3], Nodes: a.Nodes[:len(a.Nodes)+3]}
		was := toldAuto(whole)
		asTheModelSays(t, a, allPairs(states))
		notTwo(t, a, states, 0, api.ErrArg)
		notTwo(t, a, 0, states, api.ErrArg)
		if toldAuto(whole) != was {
			t.Fatal(was, toldAuto(whole))
		}
		// One that may not be is refused as it is, whatever stands behind its end.
		a.Guard = a.Guard[:states-1]
		noAuto(t, a)
		if toldAuto(whole) != was {
			t.Fatal(was, toldAuto(whole))
		}
	}
}

func TestNothingHandedInIsKept(t *testing.T) {
	a := three()
	of, _ := part.Classes(a)
	l, _ := part.Reached(a)
	tr, is, _ := part.Parts(a, 0, 1)
	spoil(a.Accept, true)
	spoil(a.Guard, -1)
	spoil(a.Nodes, api.Node{})
	if !slices.Equal(of, numbers("0 1 1")) || !slices.Equal(l, numbers("0 1 2")) || len(tr) != 0 || !is {
		t.Error(of, l, tr, is)
	}
	// What is asked behind it is of what stands there now.
	noAuto(t, a)
	a.Nodes = nil
	classes(t, a, "0 0 0")
	reached(t, a, "0")
	alike(t, a, 0, 1)
	classes(t, three(), "0 1 1")
}

func TestNilAndEmptyAreTheSame(t *testing.T) {
	for _, l := range [][]api.Node{nil, {}, make([]api.Node, 0, 8)} {
		a := api.Auto{Props: 2, Accept: bools("01"), Guard: []int{-2, -2}, Nodes: l}
		classes(t, a, "0 1")
		reached(t, a, "0 1")
		apart(t, a, 0, 1, nil)
		for _, guards := range [][]int{nil, {}} {
			noAuto(t, api.Auto{Props: 2, Accept: nil, Guard: guards, Nodes: l})
			noAuto(t, api.Auto{Props: 2, Accept: []bool{}, Guard: guards, Nodes: l})
			noAuto(t, api.Auto{Props: 2, Accept: bools("1"), Guard: guards, Nodes: l})
		}
	}
}

// odd tells a number such as no one asks for.
func odd(chance *rand.Rand) int {
	switch chance.Intn(6) {
	case 0:
		return chance.Intn(12) - 4
	case 1:
		return []int{math.MinInt, math.MaxInt, math.MinInt + 1, math.MaxInt - 1, 1 << 20, -1 << 20, 1 << 32, -1 << 32, 255, 256}[chance.Intn(10)]
	case 2:
		return int(chance.Uint64())
	}
	return chance.Intn(6) - 3
}

func TestCallsAreCalm(t *testing.T) {
	t.Parallel()
	chance := rand.New(rand.NewSource(13))
	met := map[api.Errno]int{}
	for range 30000 {
		a := api.Auto{Props: odd(chance), Accept: make([]bool, chance.Intn(4)), Guard: make([]int, chance.Intn(4)), Nodes: make([]api.Node, chance.Intn(3))}
		if chance.Intn(2) == 0 {
			a = growAuto(chance, chance.Intn(3), 1+chance.Intn(3), 2)
		} else {
			for i := range a.Guard {
				a.Guard[i] = odd(chance)
			}
			for i := range a.Nodes {
				a.Nodes[i] = api.Node{P: odd(chance), Lo: odd(chance), Hi: odd(chance)}
			}
		}
		p, q := odd(chance), odd(chance)
		if chance.Intn(2) == 0 {
			p, q = chance.Intn(4), chance.Intn(4)
		}
		must := guard.Check(a)
		of, err := part.Classes(a)
		l, other := part.Reached(a)
		if err != must || other != must || (err == api.OK) != (len(of) > 0) || (err == api.OK) != (len(l) > 0) {
			t.Fatal(toldAuto(a), of, err, l, other)
		}
		if must == api.OK && (p < 0 || p >= len(of) || q < 0 || q >= len(of)) {
			must = api.ErrArg
		}
		met[must]++
		is, err := part.Alike(a, p, q)
		tr, unlike, other := part.Parts(a, p, q)
		if err != must || other != must || err != api.OK && (is || unlike) || !unlike && len(tr) > 0 || err == api.OK && (is == unlike || is != (of[p] == of[q])) {
			t.Fatal(toldAuto(a), p, q, is, err, tr, unlike, other)
		}
	}
	for _, err := range []api.Errno{api.OK, api.ErrArg, api.ErrAuto} {
		if met[err] < 1000 {
			t.Error(err, met[err])
		}
	}
}

func TestAnswersHangOnArgumentsAlone(t *testing.T) {
	t.Parallel()
	chance := rand.New(rand.NewSource(14))
	small := growAuto(chance, 2, 30, 9)
	a, _ := blown(chance, small, 200)
	some := somePairs(chance, 200, 30)
	all := func() string {
		of, _ := part.Classes(a)
		l, _ := part.Reached(a)
		text := told(of) + "; " + told(l)
		for _, x := range some {
			is, _ := part.Alike(a, x[0], x[1])
			tr, unlike, err := part.Parts(a, x[0], x[1])
			text += "; " + strconv.FormatBool(is) + strconv.FormatBool(unlike) + err.Error()
			for _, l := range tr {
				text += " " + strconv.Itoa(int(l))
			}
		}
		return text
	}
	must := all()
	var group sync.WaitGroup
	for range 8 {
		group.Go(func() {
			if got := all(); got != must {
				t.Error("another answer at another time")
			}
		})
	}
	group.Wait()
}
