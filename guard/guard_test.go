package guard_test

import (
	"math"
	"math/rand"
	"slices"
	"testing"

	"rejoinder/api"
	"rejoinder/guard"
)

// store tells a store of n propositions.
func store(t *testing.T, n int) *guard.Store {
	t.Helper()
	s, err := guard.New(n)
	if s == nil || err != api.OK {
		t.Fatalf("New(%d) = %v %d", n, s, err)
	}
	return s
}

// add adds a list whose reference is written out.
func add(t *testing.T, s *guard.Store, where string, must int) {
	t.Helper()
	if ref, err := s.Add(numbers(where)); ref != must || err != api.OK {
		t.Errorf("Add(%s) = %d %d, not %d", where, ref, err, must)
	}
}

// refused adds a list that must be refused, and asks whether the store is as it was.
func refused(t *testing.T, s *guard.Store, where []int, must api.Errno) {
	t.Helper()
	was := s.Nodes()
	if ref, err := s.Add(where); ref != 0 || err != must {
		t.Errorf("Add of %d states, %.60s = %d %d, not %d", len(where), told(where), ref, err, must)
	}
	if s.Len() != len(was) || !slices.Equal(s.Nodes(), was) {
		t.Errorf("Add of %d states, %.60s changes the nodes: %d, not %d", len(where), told(where), s.Len(), len(was))
	}
}

// holds asks a store for nodes that are written out.
func holds(t *testing.T, s *guard.Store, must string) {
	t.Helper()
	l := s.Nodes()
	if toldNodes(l) != toldNodes(nodes(must)) {
		t.Errorf("Nodes = %s, not %s", toldNodes(l), must)
	}
	if s.Len() != len(nodes(must)) {
		t.Errorf("Len = %d, not %d", s.Len(), len(nodes(must)))
	}
}

// goes asks Go for a state.
func goes(t *testing.T, l []api.Node, ref int, a api.Letter, must int) {
	t.Helper()
	if state, reached := guard.Go(l, ref, a); state != must || !reached {
		t.Errorf("Go(%.60s, %d, %d) = %d %t, not %d", toldNodes(l), ref, a, state, reached, must)
	}
}

// fails asks Go, which must fail.
func fails(t *testing.T, l []api.Node, ref int, a api.Letter) {
	t.Helper()
	if state, reached := guard.Go(l, ref, a); state != 0 || reached {
		t.Errorf("Go(%.60s, %d, %d) = %d %t", toldNodes(l), ref, a, state, reached)
	}
}

// tells asks Table for states that are written out.
func tells(t *testing.T, n int, l []api.Node, ref int, must string) {
	t.Helper()
	if where, err := guard.Table(n, l, ref); !slices.Equal(where, numbers(must)) || err != api.OK {
		t.Errorf("Table(%d, %.60s, %d) = %s %d, not %s", n, toldNodes(l), ref, told(where), err, must)
	}
}

// noTable asks Table, which must be refused.
func noTable(t *testing.T, n int, l []api.Node, ref int, must api.Errno) {
	t.Helper()
	if where, err := guard.Table(n, l, ref); where != nil || err != must {
		t.Errorf("Table(%d, %.60s, %d) = %s %d, not %d", n, toldNodes(l), ref, told(where), err, must)
	}
}

// may asks Check of an automaton that may be.
func may(t *testing.T, a api.Auto) {
	t.Helper()
	if err := guard.Check(a); err != api.OK {
		t.Errorf("Check of %.200s = %d", toldAuto(a), err)
	}
	if l := faults(a); l != nil {
		t.Errorf("faults of %.200s: %v", toldAuto(a), l)
	}
}

// mayNot asks Check of an automaton that may not be, for one reason alone (as far as one may stand by itself).
func mayNot(t *testing.T, a api.Auto, reason string) {
	t.Helper()
	if err := guard.Check(a); err != api.ErrAuto {
		t.Errorf("Check of %.200s = %d", toldAuto(a), err)
	}
	if l := faults(a); !slices.Equal(l, []string{reason}) {
		t.Errorf("faults of %.200s: %v, not %s alone", toldAuto(a), l, reason)
	}
}

// The chapter's examples

func TestExamples(t *testing.T) {
	s := store(t, 2)
	add(t, s, "5 5 5 5", -6)
	holds(t, s, "")
	add(t, s, "0 1 0 1", 0)
	holds(t, s, "0 -1 -2")
	add(t, s, "0 0 1 1", 1)
	holds(t, s, "0 -1 -2; 1 -1 -2")
	add(t, s, "0 1 1 0", 3)
	holds(t, s, "0 -1 -2; 1 -1 -2; 1 -2 -1; 0 1 2")
	these := s.Nodes()
	goes(t, these, 3, 3, 0)
	goes(t, these, 3, 1, 1)
	fails(t, these, 9, 0)
	tells(t, 2, these, 1, "0 0 1 1")
	noTable(t, 9, these, 1, api.ErrArg)
	if s, err := guard.New(9); s != nil || err != api.ErrArg {
		t.Error(s, err)
	}
	refused(t, s, numbers("0 1 2"), api.ErrArg)
	refused(t, s, numbers("0 1 0 -1"), api.ErrArg)
	may(t, auto(0, "1", "-1", ""))
	mayNot(t, auto(0, "1", "0", ""), "guard")
}

// P14.1

func TestHowManyPropositionsThereMayBe(t *testing.T) {
	for n := range 9 {
		s := store(t, n)
		if s.Len() != 0 || len(s.Nodes()) != 0 {
			t.Error(n, s.Len(), s.Nodes())
		}
		if _, err := s.Add(make([]int, 1<<n)); err != api.OK {
			t.Error(n, err)
		}
	}
	for _, n := range []int{-1, 9, 10, -2, 16, 31, 32, 63, 64, 65, 255, 256, 264, 1 << 32, 1<<32 + 2, math.MinInt, math.MinInt + 8, math.MaxInt} {
		if s, err := guard.New(n); s != nil || err != api.ErrArg {
			t.Errorf("New(%d) = %v %d", n, s, err)
		}
	}
}

func TestNodesAndLen(t *testing.T) {
	s := store(t, 1)
	for i := range 100 {
		if s.Len() != i || len(s.Nodes()) != i {
			t.Fatal(i, s.Len(), len(s.Nodes()))
		}
		if ref, err := s.Add([]int{i, i + 1}); ref != i || err != api.OK {
			t.Fatal(i, ref, err)
		}
		if last := s.Nodes()[i]; last != (api.Node{P: 0, Lo: -1 - i, Hi: -2 - i}) {
			t.Fatal(i, last)
		}
	}
	// Asking makes none.
	s.Nodes()
	if s.Len() != 100 {
		t.Error(s.Len())
	}
}

// Rule 5

// none asks all of a store that is none.
func none(t *testing.T, s *guard.Store) {
	t.Helper()
	for _, where := range [][]int{nil, {}, {0}, {0, 1}, {0, 1, 2}, {0, 1, 0, 1}, {-1}, {1 << 20}, make([]int, 256), make([]int, 5000)} {
		if ref, err := s.Add(where); ref != 0 || err != api.ErrNil {
			t.Errorf("Add of %d states = %d %d", len(where), ref, err)
		}
	}
	if l := s.Nodes(); len(l) != 0 {
		t.Errorf("Nodes = %s", toldNodes(l))
	}
	if n := s.Len(); n != 0 {
		t.Errorf("Len = %d", n)
	}
}

func TestAStoreThatIsNone(t *testing.T) {
	none(t, nil)
	none(t, &guard.Store{})
	none(t, new(guard.Store))
	var s guard.Store
	none(t, &s)
	none(t, &[]guard.Store{{}, {}}[1])
	var within struct{ guard.Store }
	none(t, &within.Store)
	refusedNew, _ := guard.New(-1)
	none(t, refusedNew)
}

func TestACopyIsNoStore(t *testing.T) {
	s := store(t, 1)
	add(t, s, "0 1", 0)
	c := *s
	none(t, &c)
	holds(t, s, "0 -1 -2")
	add(t, s, "1 0", 1)
	none(t, &c)
	holds(t, s, "0 -1 -2; 0 -2 -1")
}

// P14.2

func TestListsThatAreTooShortOrTooLong(t *testing.T) {
	for n := range 9 {
		s := store(t, n)
		where := make([]int, 1<<n)
		where[len(where)-1] = 3
		ref, err := s.Add(where)
		if err != api.OK {
			t.Error(n, err)
		}
		refused(t, s, nil, api.ErrArg)
		refused(t, s, []int{}, api.ErrArg)
		for _, many := range []int{1<<n - 1, 1<<n + 1, 1 << n / 2, 1 << n * 2, 3, 5, 255, 257, 511, 512, 65536} {
			if many != 1<<n {
				refused(t, s, make([]int, many), api.ErrArg)
			}
		}
		// What was there is found again.
		if again, err := s.Add(where); again != ref || err != api.OK {
			t.Error(n, again, ref, err)
		}
	}
}

func TestStatesThatAListMayHave(t *testing.T) {
	s := store(t, 0)
	for _, state := range []int{0, 1, 255, 256, 4096, 1048574, 1048575} {
		if ref, err := s.Add([]int{state}); ref != -1-state || err != api.OK {
			t.Errorf("Add(%d) = %d %d", state, ref, err)
		}
	}
	for _, state := range []int{-1, -2, 1048576, 1048577, 1 << 32, 1<<32 + 1, -1 << 20, math.MinInt, math.MaxInt} {
		refused(t, s, []int{state}, api.ErrArg)
		// Wherever it stands.
		for n := 1; n <= 8; n++ {
			s := store(t, n)
			for at := range 1 << n {
				where := make([]int, 1<<n)
				where[at] = state
				refused(t, s, where, api.ErrArg)
			}
		}
	}
	s = store(t, 1)
	add(t, s, "0 1048575", 0)
	add(t, s, "1048575 0", 1)
	add(t, s, "1048575 1048575", -1048576)
	refused(t, s, numbers("0 1048576"), api.ErrArg)
	holds(t, s, "0 -1 -1048576; 0 -1048576 -1")
	tells(t, 1, s.Nodes(), 0, "0 1048575")
}

func TestNoPropositions(t *testing.T) {
	s := store(t, 0)
	add(t, s, "0", -1)
	add(t, s, "7", -8)
	add(t, s, "0", -1)
	holds(t, s, "")
	refused(t, s, nil, api.ErrArg)
	refused(t, s, numbers("0 0"), api.ErrArg)
	tells(t, 0, nil, -8, "7")
}

func TestWhichNodesAreMade(t *testing.T) {
	for _, c := range []struct {
		n     int
		where string
		ref   int
		nodes string
	}{
		{1, "0 1", 0, "0 -1 -2"},
		{1, "1 0", 0, "0 -2 -1"},
		{1, "4 4", -5, ""},
		// By the proposition 0, by the proposition 1 alone.
		{2, "2 3 2 3", 0, "0 -3 -4"},
		{2, "2 2 3 3", 0, "1 -3 -4"},
		// One side alone goes on.
		{2, "0 1 0 2", 1, "1 -2 -3; 0 -1 0"},
		{2, "0 1 2 1", 1, "1 -1 -3; 0 0 -2"},
		{2, "0 0 0 1", 1, "1 -1 -2; 0 -1 0"},
		{2, "0 1 1 1", 1, "1 -1 -2; 0 0 -2"},
		// Lo ahead of Hi.
		{2, "0 1 2 3", 2, "1 -1 -3; 1 -2 -4; 0 0 1"},
		{2, "3 2 1 0", 2, "1 -4 -2; 1 -3 -1; 0 0 1"},
		{3, "0 1 2 3 4 5 6 7", 6, "2 -1 -5; 2 -3 -7; 1 0 1; 2 -2 -6; 2 -4 -8; 1 3 4; 0 2 5"},
		// A proposition is left out on one side, or on all.
		{3, "0 0 1 1 0 0 1 1", 0, "1 -1 -2"},
		{3, "0 0 0 0 1 1 1 1", 0, "2 -1 -2"},
		{3, "0 1 0 1 0 1 0 1", 0, "0 -1 -2"},
		{3, "0 1 0 1 2 1 2 1", 1, "2 -1 -3; 0 0 -2"},
		{3, "0 3 1 3 0 3 1 3", 1, "1 -1 -2; 0 0 -4"},
		// A node that both sides have is made once.
		{3, "0 0 0 1 1 1 1 0", 3, "2 -1 -2; 2 -2 -1; 1 0 1; 0 0 2"},
		{3, "0 1 1 0 1 0 0 1", 4, "2 -1 -2; 2 -2 -1; 1 0 1; 1 1 0; 0 2 3"},
		{3, "0 0 0 1 0 0 0 1", 1, "1 -1 -2; 0 -1 0"},
	} {
		s := store(t, c.n)
		add(t, s, c.where, c.ref)
		holds(t, s, c.nodes)
		// Once more makes none.
		add(t, s, c.where, c.ref)
		holds(t, s, c.nodes)
		m := newModel(c.n)
		if ref := m.add(numbers(c.where)); ref != c.ref || toldNodes(m.nodes) != toldNodes(nodes(c.nodes)) {
			t.Errorf("the model of %s: %d, %s", c.where, ref, toldNodes(m.nodes))
		}
		tells(t, c.n, s.Nodes(), c.ref, c.where)
	}
}

func TestWhatIsThereIsTakenAgain(t *testing.T) {
	s := store(t, 2)
	add(t, s, "0 1 2 3", 2)
	holds(t, s, "1 -1 -3; 1 -2 -4; 0 0 1")
	// Each side by itself.
	add(t, s, "0 0 2 2", 0)
	add(t, s, "1 1 3 3", 1)
	// Both the other way round: just the node of the proposition 0 is new.
	add(t, s, "1 0 3 2", 3)
	holds(t, s, "1 -1 -3; 1 -2 -4; 0 0 1; 0 1 0")
	add(t, s, "0 2 2 0", 5)
	holds(t, s, "1 -1 -3; 1 -2 -4; 0 0 1; 0 1 0; 1 -3 -1; 0 0 4")
	// The same sides by another proposition are another node.
	add(t, s, "0 2 0 2", 6)
	add(t, s, "0 1 2 3", 2)
	if s.Len() != 7 {
		t.Error(toldNodes(s.Nodes()))
	}
}

// pair tells the i-th list of two unlike states, of 65 or more.
func pair(i int) []int {
	lo, hi := i/64, i%64
	if hi >= lo {
		hi++
	}
	return []int{lo, hi}
}

// filled tells a store of one proposition that has just so many nodes.
func filled(t *testing.T, many int) *guard.Store {
	t.Helper()
	s := store(t, 1)
	for i := range many {
		if ref, err := s.Add(pair(i)); ref != i || err != api.OK {
			t.Fatal(i, ref, err)
		}
	}
	sameFilled(t, s, many)
	return s
}

// sameFilled asks whether a store has the nodes that filled gave it, and no others.
func sameFilled(t *testing.T, s *guard.Store, many int) {
	t.Helper()
	l := s.Nodes()
	if s.Len() != many || len(l) != many {
		t.Fatal(s.Len(), len(l), many)
	}
	for i, x := range l {
		where := pair(i)
		if x != (api.Node{P: 0, Lo: -1 - where[0], Hi: -1 - where[1]}) {
			t.Fatal(i, x)
		}
	}
}

func TestJustAsManyNodesAsMayBe(t *testing.T) {
	s := filled(t, 4095)
	if ref, err := s.Add(pair(4095)); ref != 4095 || err != api.OK {
		t.Error(ref, err)
	}
	sameFilled(t, s, 4096)
	for range 3 {
		refused(t, s, []int{64, 0}, api.ErrGuards)
		refused(t, s, []int{70, 71}, api.ErrGuards)
		sameFilled(t, s, 4096)
		// What needs no new node is told.
		for i := range 4096 {
			if ref, err := s.Add(pair(i)); ref != i || err != api.OK {
				t.Fatal(i, ref, err)
			}
		}
		add(t, s, "70 70", -71)
		add(t, s, "0 0", -1)
	}
	// Wrong lists are told ahead.
	refused(t, s, []int{64}, api.ErrArg)
	refused(t, s, []int{64, 0, 0}, api.ErrArg)
	refused(t, s, []int{64, -1}, api.ErrArg)
	refused(t, s, []int{1048576, 64}, api.ErrArg)
	sameFilled(t, s, 4096)
}

// crowded tells a store of two propositions that has just so many nodes, all of the proposition 1, with the states from 100 on.
func crowded(t *testing.T, many int) (*guard.Store, []api.Node) {
	t.Helper()
	s := store(t, 2)
	var must []api.Node
	for i := range many {
		where := pair(i)
		lo, hi := 100+where[0], 100+where[1]
		if ref, err := s.Add([]int{lo, lo, hi, hi}); ref != i || err != api.OK {
			t.Fatal(i, ref, err)
		}
		must = append(must, api.Node{P: 1, Lo: -1 - lo, Hi: -1 - hi})
	}
	if !slices.Equal(s.Nodes(), must) {
		t.Fatal(many)
	}
	return s, must
}

func TestNothingIsKeptOfAListForWhichThereIsNoRoom(t *testing.T) {
	// 0 1 2 3 needs three nodes: there is room for none, for one, for two, and for all.
	for room := range 4 {
		s, must := crowded(t, 4096-room)
		want := api.ErrGuards
		if room == 3 {
			want = api.OK
			must = append(must, nodes("1 -1 -3; 1 -2 -4; 0 4093 4094")...)
		}
		for range 3 {
			ref, err := s.Add(numbers("0 1 2 3"))
			if err != want || room == 3 && ref != 4095 || room < 3 && ref != 0 {
				t.Errorf("room %d: %d %d", room, ref, err)
			}
			if !slices.Equal(s.Nodes(), must) || s.Len() != len(must) {
				t.Errorf("room %d: %d nodes, not %d", room, s.Len(), len(must))
			}
		}
	}
}

func TestWhatWasNotKeptIsNotFound(t *testing.T) {
	s, must := crowded(t, 4095)
	refused(t, s, numbers("0 1 2 3"), api.ErrGuards)
	// The Hi side comes ahead now: it is made at the place that the Lo side would have had.
	add(t, s, "1 1 3 3", 4095)
	must = append(must, api.Node{P: 1, Lo: -2, Hi: -4})
	refused(t, s, numbers("0 0 2 2"), api.ErrGuards)
	refused(t, s, numbers("0 1 2 3"), api.ErrGuards)
	refused(t, s, numbers("1 1 2 3"), api.ErrGuards)
	add(t, s, "1 1 3 3", 4095)
	if !slices.Equal(s.Nodes(), must) {
		t.Error(s.Len())
	}
	// Just the node of the proposition 0 would be new.
	refused(t, s, []int{1, 100, 3, 101}, api.ErrGuards)
	for i := range 4095 {
		where := pair(i)
		lo, hi := 100+where[0], 100+where[1]
		if ref, err := s.Add([]int{lo, lo, hi, hi}); ref != i || err != api.OK {
			t.Fatal(i, ref, err)
		}
	}
	if !slices.Equal(s.Nodes(), must) {
		t.Error(s.Len())
	}
}

// counted tells a list of 256 states, all unlike, from the first on.
func counted(first int) []int {
	where := make([]int, 256)
	for i := range where {
		where[i] = first + i
	}
	return where
}

func TestGreatListsUpToTheLimit(t *testing.T) {
	s := store(t, 8)
	m := newModel(8)
	// Each needs 255 nodes.
	for i := range 16 {
		ref, err := s.Add(counted(256 * i))
		if must := m.add(counted(256 * i)); ref != must || ref != 255*(i+1)-1 || err != api.OK {
			t.Fatal(i, ref, must, err)
		}
	}
	if !slices.Equal(s.Nodes(), m.nodes) || s.Len() != 4080 {
		t.Fatal(s.Len(), len(m.nodes))
	}
	refused(t, s, counted(4096), api.ErrGuards)
	// 16 more, one by one, then none.
	for i := range 18 {
		where := slices.Repeat([]int{5000, 5001 + i}, 128)
		if i < 16 {
			if ref, err := s.Add(where); ref != 4080+i || err != api.OK {
				t.Fatal(i, ref, err)
			}
			m.add(where)
		} else {
			refused(t, s, where, api.ErrGuards)
		}
	}
	if !slices.Equal(s.Nodes(), m.nodes) || s.Len() != 4096 {
		t.Error(s.Len(), len(m.nodes))
	}
	for i := range 16 {
		if ref, err := s.Add(counted(256 * i)); ref != 255*(i+1)-1 || err != api.OK {
			t.Fatal(i, ref, err)
		}
	}
}

func TestGrownListsUpToTheLimit(t *testing.T) {
	for seed := range int64(6) {
		chance := rand.New(rand.NewSource(seed))
		n := 3 + int(seed)
		s, m := store(t, n), newModel(n)
		refusals, kept := 0, 0
		for refusals < 30 {
			where := grow(chance, n, 2+chance.Intn(6)*chance.Intn(8))
			before := len(m.nodes)
			must := m.add(where)
			if len(m.nodes) > 4096 {
				m.cut(before)
				refusals++
				refused(t, s, where, api.ErrGuards)
				continue
			}
			kept++
			if ref, err := s.Add(where); ref != must || err != api.OK || s.Len() != len(m.nodes) {
				t.Fatal(n, ref, must, err, s.Len(), len(m.nodes))
			}
		}
		if !slices.Equal(s.Nodes(), m.nodes) || s.Len() < 3800 || kept < 20 {
			t.Error(n, s.Len(), len(m.nodes), kept)
		}
	}
}

// P14.3

func TestGoToAState(t *testing.T) {
	for a := range 256 {
		goes(t, nil, -1, api.Letter(a), 0)
		goes(t, nil, -2, api.Letter(a), 1)
		goes(t, nodes("0 -1 -2"), -300, api.Letter(a), 299)
		goes(t, nodes("99 7 7"), -1048576, api.Letter(a), 1048575)
		goes(t, nil, math.MinInt, api.Letter(a), math.MaxInt)
	}
}

func TestGoAtReferencesThatAreNoPlace(t *testing.T) {
	l := nodes("0 -1 -2; 1 2 -3; 2 1048576 9")
	for _, ref := range []int{3, 4, 9, 1048576, 1 << 32, math.MaxInt} {
		fails(t, l, ref, 0)
		fails(t, l, ref, 255)
		fails(t, nil, ref, 0)
		fails(t, []api.Node{}, 0, 7)
		// A place among the nodes leads to one that is none, by one letter or the other.
		l[2].Lo, l[2].Hi = ref, -8
		fails(t, l, 2, 0)
		fails(t, l, 1, 0)
		goes(t, l, 1, 4, 7)
		goes(t, l, 1, 2, 2)
		l[2].Lo, l[2].Hi = -8, ref
		fails(t, l, 2, 4)
		fails(t, l, 1, 4)
		goes(t, l, 1, 0, 7)
	}
	// Just the nodes that are gone through are looked at.
	goes(t, l, 0, 0, 0)
	goes(t, l, 0, 1, 1)
	// The spare room is none of the nodes.
	fails(t, l[:2], 2, 0)
	fails(t, l[:2], 1, 0)
	fails(t, l[:0], 0, 0)
}

func TestGoAtPropositionsThatAreNone(t *testing.T) {
	for _, p := range []int{-1, 8, 9, -2, 15, 16, 32, 63, 64, 256, 1 << 32, math.MinInt, math.MaxInt} {
		l := []api.Node{{P: p, Lo: -1, Hi: -2}, {P: 3, Lo: 0, Hi: -3}, {P: p, Lo: -4, Hi: -4}}
		for a := range 256 {
			fails(t, l, 0, api.Letter(a))
			fails(t, l, 2, api.Letter(a))
			if a>>3&1 == 1 {
				goes(t, l, 1, api.Letter(a), 2)
			} else {
				fails(t, l, 1, api.Letter(a))
			}
		}
	}
	for p := range 8 {
		l := []api.Node{{P: p, Lo: -1, Hi: -2}}
		for a := range 256 {
			goes(t, l, 0, api.Letter(a), a>>p&1)
		}
	}
}

// chain tells so many nodes, each of the proposition p, that lead each to the next and the last to the state 5 by Lo, and all to the state 6 by Hi.
func chain(p, many int) []api.Node {
	var l []api.Node
	for i := range many {
		l = append(l, api.Node{P: p, Lo: i + 1, Hi: -7})
	}
	l[many-1].Lo = -6
	return l
}

func TestGoBehindManyNodes(t *testing.T) {
	for many := 1; many <= 20; many++ {
		l := chain(many%8, many)
		for ref := range many {
			// From ref on many less ref nodes are gone through by 0.
			if many-ref <= 8 {
				goes(t, l, ref, 0, 5)
				tells(t, 0, l, ref, "5")
			} else {
				fails(t, l, ref, 0)
				noTable(t, 0, l, ref, api.ErrAuto)
			}
			goes(t, l, ref, 255, 6)
			goes(t, l, ref, 1<<(many%8), 6)
		}
	}
	// By Hi likewise, and in any order of places and propositions.
	l := nodes("7 -1 -2; 7 -1 0; 6 -1 1; 5 -1 2; 4 -1 3; 3 -1 4; 2 -1 5; 1 -1 6; 0 -1 7")
	for ref := range 9 {
		switch {
		case ref < 8:
			goes(t, l, ref, 255, 1)
		default:
			fails(t, l, ref, 255)
		}
		goes(t, l, ref, 0, 0)
	}
	// The ninth is no node: it fails as well.
	l = chain(0, 8)
	l[7].Lo = 8
	fails(t, l, 0, 0)
	l[7].Lo = math.MaxInt
	fails(t, l, 0, 0)
	l[7].Lo = 7
	fails(t, l, 0, 0)
	l[7].Lo = math.MinInt
	goes(t, l, 0, 0, math.MaxInt)
}

func TestGoAtNodesThatLeadToThemselves(t *testing.T) {
	fails(t, nodes("0 0 0"), 0, 0)
	fails(t, nodes("0 0 0"), 0, 255)
	fails(t, nodes("0 0 -1"), 0, 254)
	goes(t, nodes("0 0 -1"), 0, 1, 0)
	l := nodes("2 1 -1; 3 2 -2; 4 0 -3")
	for ref := range 3 {
		fails(t, l, ref, 0)
		goes(t, l, ref, 28, ref)
		noTable(t, 0, l, ref, api.ErrAuto)
	}
	noTable(t, 2, nodes("1 -1 0"), 0, api.ErrAuto)
	tells(t, 1, nodes("1 -1 0"), 0, "0 0")
}

func TestTableOfEachNumberOfPropositions(t *testing.T) {
	// Each letter's state is its own number.
	s := store(t, 8)
	where := counted(0)
	ref, err := s.Add(where)
	if err != api.OK {
		t.Fatal(err)
	}
	for n := range 9 {
		got, err := guard.Table(n, s.Nodes(), ref)
		if !slices.Equal(got, where[:1<<n]) || err != api.OK {
			t.Errorf("Table(%d) = %s %d", n, told(got), err)
		}
		got, err = guard.Table(n, nil, -6)
		if !slices.Equal(got, slices.Repeat([]int{5}, 1<<n)) || err != api.OK {
			t.Errorf("Table(%d) of a state = %s %d", n, told(got), err)
		}
	}
	// A node of a proposition that no letter has leads to Lo.
	tells(t, 2, nodes("7 -1 -2; 1 0 -3; 5 1 9"), 2, "0 0 2 2")
	tells(t, 1, nodes("7 -1 99"), 0, "0 0")
	tells(t, 0, nodes("0 -4 99"), 0, "3")
}

func TestTableIsRefused(t *testing.T) {
	good, bad := nodes("0 -1 -2"), nodes("8 -1 -2")
	for _, n := range []int{-1, 9, -2, 10, 64, 256, 1 << 32, math.MinInt, math.MaxInt} {
		// n first, whatever the nodes are.
		noTable(t, n, good, 0, api.ErrArg)
		noTable(t, n, good, -1, api.ErrArg)
		noTable(t, n, good, 1, api.ErrArg)
		noTable(t, n, bad, 0, api.ErrArg)
		noTable(t, n, nil, 0, api.ErrArg)
	}
	for n := range 9 {
		noTable(t, n, bad, 0, api.ErrAuto)
		noTable(t, n, good, 1, api.ErrAuto)
		noTable(t, n, nil, 0, api.ErrAuto)
		noTable(t, n, nil, math.MaxInt, api.ErrAuto)
		// One letter alone fails: the last one.
		l := []api.Node{{P: 0, Lo: -1, Hi: -1}}
		for p := range n {
			l = append(l, api.Node{P: p, Lo: -1, Hi: p})
		}
		l[0] = api.Node{P: 8}
		noTable(t, n, l, n, api.ErrAuto)
		if n > 0 {
			tells(t, n-1, l, n, told(make([]int, 1<<(n-1))))
		}
	}
}

func TestGrownNodesAsTheModelSays(t *testing.T) {
	chance := rand.New(rand.NewSource(3))
	reached, failed := 0, 0
	for range 4000 {
		l := make([]api.Node, chance.Intn(12))
		for i := range l {
			l[i] = api.Node{P: chance.Intn(8), Lo: chance.Intn(len(l)+5) - 4, Hi: chance.Intn(len(l)+5) - 4}
			if chance.Intn(12) == 0 {
				l[i].P = chance.Intn(20) - 6
			}
		}
		for ref := -2; ref <= len(l)+1; ref++ {
			a := api.Letter(chance.Intn(256))
			state, is := guard.Go(l, ref, a)
			mustState, must := from(l, ref, a, 0)
			if state != mustState || is != must {
				t.Fatalf("Go(%s, %d, %d) = %d %t", toldNodes(l), ref, a, state, is)
			}
			n := chance.Intn(11) - 1
			where, err := guard.Table(n, l, ref)
			mustWhere, mustErr := tableOf(n, l, ref)
			if !slices.Equal(where, mustWhere) || err != mustErr {
				t.Fatalf("Table(%d, %s, %d) = %s %d", n, toldNodes(l), ref, told(where), err)
			}
			if is {
				reached++
			} else {
				failed++
			}
		}
	}
	if reached < 5000 || failed < 5000 {
		t.Error(reached, failed)
	}
}

// P14.4

func TestCheckOfWhatMayBe(t *testing.T) {
	may(t, auto(0, "0", "-1", ""))
	may(t, auto(8, "1", "-1", ""))
	may(t, auto(1, "01", "0 0", "0 -1 -2"))
	may(t, auto(1, "01", "0 1", "0 -1 -2; 0 -2 -1"))
	may(t, auto(2, "000", "2 -2 -3", "1 -2 -3; 1 -1 -2; 0 1 0"))
	// A node that no guard comes to may be; so may a state that none leads to.
	may(t, auto(8, "00", "-1 -1", "7 -1 -2; 3 -1 0; 0 1 0"))
	// A node behind the last proposition but one, beside a lesser one.
	may(t, auto(8, "01", "7 7", "7 -1 -2; 6 -1 0; 5 -1 1; 4 -1 2; 3 -1 3; 2 -1 4; 1 -1 5; 0 -1 6"))
	// Places ahead, not just the one ahead.
	may(t, auto(3, "01", "3 3", "2 -1 -2; 2 -2 -1; 1 0 1; 0 0 2"))
	// Example 1 of the document: p U q.
	may(t, auto(2, "001", "2 -2 -3", "1 -2 -3; 1 -1 -3; 0 0 1"))
}

func TestCheckOfEachNumberOfPropositions(t *testing.T) {
	for n := range 9 {
		may(t, auto(n, "1", "-1", ""))
		if n > 0 {
			may(t, api.Auto{Props: n, Accept: []bool{true, false}, Guard: []int{0, 0}, Nodes: []api.Node{{P: n - 1, Lo: -1, Hi: -2}}})
			may(t, api.Auto{Props: n, Accept: []bool{true, false}, Guard: []int{0, 0}, Nodes: []api.Node{{P: 0, Lo: -1, Hi: -2}}})
		}
		for _, p := range []int{n, n + 1, 8, -1, -2, math.MinInt, math.MaxInt, 1 << 32} {
			mayNot(t, api.Auto{Props: n, Accept: []bool{true, false}, Guard: []int{0, 0}, Nodes: []api.Node{{P: p, Lo: -1, Hi: -2}}}, "p")
		}
	}
	for _, n := range []int{-1, 9, 10, 64, -8, 1 << 32, math.MinInt, math.MaxInt} {
		mayNot(t, auto(n, "1", "-1", ""), "props")
	}
	mayNot(t, auto(9, "10", "0 0", "7 -1 -2"), "props")
	mayNot(t, auto(9, "10", "0 0", "8 -1 -2"), "props")
}

// sized tells an automaton of so many states without nodes.
func sized(states, guards int) api.Auto {
	a := api.Auto{Props: 2, Accept: make([]bool, states), Guard: make([]int, guards)}
	for i := range a.Guard {
		a.Guard[i] = -1 - i%max(states, 1)
	}
	return a
}

func TestCheckOfHowManyStatesAndGuards(t *testing.T) {
	for _, n := range []int{1, 2, 100, 255, 256} {
		may(t, sized(n, n))
		mayNot(t, sized(n, n-1), "guards")
		mayNot(t, sized(n, n+1), "guards")
		mayNot(t, sized(n, 0), "guards")
		mayNot(t, sized(n, 2*n), "guards")
	}
	mayNot(t, sized(0, 0), "states")
	mayNot(t, sized(257, 257), "states")
	mayNot(t, sized(1000, 1000), "states")
	mayNot(t, api.Auto{}, "states")
	// The last state, and the one behind it.
	a := sized(256, 256)
	a.Guard[0], a.Guard[255] = -256, -256
	may(t, a)
	for _, at := range []int{0, 100, 255} {
		a := sized(256, 256)
		a.Guard[at] = -257
		mayNot(t, a, "guard")
	}
}

// nodesOf tells so many nodes of the proposition 0, each another one, of 65 states or more.
func nodesOf(many int) []api.Node {
	var l []api.Node
	for i := range many {
		where := pair(i)
		l = append(l, api.Node{P: 0, Lo: -1 - where[0], Hi: -1 - where[1]})
	}
	return l
}

func TestCheckOfHowManyNodes(t *testing.T) {
	for _, many := range []int{0, 1, 4095, 4096, 4097, 4100} {
		a := sized(80, 80)
		a.Nodes = nodesOf(many)
		if many > 4096 {
			mayNot(t, a, "nodes")
			continue
		}
		may(t, a)
		a.Guard[79] = many - 1
		may(t, a)
		a.Guard[79] = many
		mayNot(t, a, "guard")
	}
}

func TestCheckOfGuards(t *testing.T) {
	for at := range 3 {
		for _, ref := range []int{0, 1, -1, -2, -3} {
			a := auto(2, "010", "-1 -2 -3", "1 -2 -3; 1 -1 -3")
			a.Guard[at] = ref
			may(t, a)
		}
		for _, ref := range []int{2, 3, 4096, -4, -5, math.MinInt, math.MaxInt, 1 << 32, -1 << 32} {
			a := auto(2, "010", "-1 -2 -3", "1 -2 -3; 1 -1 -3")
			a.Guard[at] = ref
			mayNot(t, a, "guard")
		}
	}
}

func TestCheckOfBothSides(t *testing.T) {
	for _, side := range []func(x *api.Node) *int{func(x *api.Node) *int { return &x.Lo }, func(x *api.Node) *int { return &x.Hi }} {
		with := func(at, ref int) api.Auto {
			a := auto(4, "000", "-1 -2 -3", "3 -1 -2; 2 -1 -2; 2 -1 0; 1 -1 -2; 0 -1 -2")
			// The other side is a state that no ref below is.
			a.Nodes[at] = api.Node{P: a.Nodes[at].P, Lo: -3, Hi: -3}
			*side(&a.Nodes[at]) = ref
			return a
		}
		for at := range 5 {
			for _, ref := range []int{-4, -5, math.MinInt, -1 << 32} {
				mayNot(t, with(at, ref), "no state")
			}
			for _, ref := range []int{5, 6, 4096, math.MaxInt, 1 << 32} {
				mayNot(t, with(at, ref), "no lesser place")
			}
			may(t, with(at, -1))
			may(t, with(at, -2))
			mayNot(t, with(at, -3), "alike")
		}
		for at, greater := range [][]int{{}, {0}, {0}, {0, 1, 2}, {0, 1, 2, 3}} {
			for ref := range at {
				if slices.Contains(greater, ref) {
					may(t, with(at, ref))
				} else {
					mayNot(t, with(at, ref), "no greater p")
				}
			}
		}
		// A node behind it with a greater P is of no lesser place.
		a := auto(3, "000", "-1 -2 -3", "0 -3 -3; 1 -1 -2")
		*side(&a.Nodes[0]) = 1
		mayNot(t, a, "no lesser place")
		// Itself is neither ahead of it, nor greater.
		a = auto(3, "000", "-1 -2 -3", "0 -3 -3")
		*side(&a.Nodes[0]) = 0
		if guard.Check(a) != api.ErrAuto {
			t.Error(toldAuto(a))
		}
	}
}

func TestCheckOfBothSidesAlike(t *testing.T) {
	mayNot(t, auto(2, "00", "0 0", "0 -1 -1"), "alike")
	mayNot(t, auto(2, "00", "0 0", "0 -2 -2"), "alike")
	mayNot(t, auto(2, "00", "0 0", "1 -1 -2; 0 0 0"), "alike")
}

func TestCheckOfTwoNodesTheSame(t *testing.T) {
	mayNot(t, auto(1, "00", "0 0", "0 -1 -2; 0 -1 -2"), "the same")
	mayNot(t, auto(3, "000", "0 0 0", "2 -1 -2; 1 0 -3; 2 -2 -1; 1 0 -3"), "the same")
	mayNot(t, auto(3, "000", "0 0 0", "2 -1 -2; 1 0 -3; 0 1 0; 2 -1 -2"), "the same")
	// One thing is another alone.
	may(t, auto(3, "000", "0 0 0", "2 -1 -2; 1 -1 -2; 0 -1 -2; 2 -2 -1; 2 -1 -3; 2 -3 -2"))
	for _, at := range []int{1, 2000, 4095} {
		a := sized(80, 80)
		a.Nodes = nodesOf(4096)
		a.Nodes[at] = a.Nodes[0]
		mayNot(t, a, "the same")
		a.Nodes[at] = nodesOf(4097)[4096]
		may(t, a)
	}
}

func TestCheckLooksAtNodesThatAreNotReached(t *testing.T) {
	mayNot(t, auto(2, "0", "-1", "0 -1 -1"), "alike")
	mayNot(t, auto(2, "00", "-1 -1", "0 -1 -3"), "no state")
	mayNot(t, auto(2, "00", "-1 -1", "2 -1 -2"), "p")
	mayNot(t, auto(2, "00", "-1 -1", "0 -1 -2; 0 -1 -2"), "the same")
}

func TestGrownAutomataAsTheModelSays(t *testing.T) {
	chance := rand.New(rand.NewSource(4))
	met := map[string]int{}
	for range 3000 {
		a := growAuto(chance)
		if guard.Check(a) != api.OK || faults(a) != nil {
			t.Fatal(toldAuto(a), faults(a))
		}
		a.Nodes = slices.Clone(a.Nodes)
		for range 1 + chance.Intn(2) {
			change(chance, &a)
		}
		must := api.OK
		l := faults(a)
		if l != nil {
			must = api.ErrAuto
		}
		if err := guard.Check(a); err != must {
			t.Fatal(toldAuto(a), err, l)
		}
		if len(l) < 2 {
			met[told([]int{len(l)})]++
			for _, fault := range l {
				met[fault]++
			}
		}
	}
	for _, fault := range []string{"0", "1", "props", "states", "guards", "p", "alike", "no state", "no lesser place", "no greater p", "the same", "guard"} {
		if met[fault] < 15 {
			t.Error(fault, met[fault])
		}
	}
}

// change changes one thing of an automaton.
func change(chance *rand.Rand, a *api.Auto) {
	number := func() int { return chance.Intn(len(a.Nodes)+len(a.Accept)+4) - len(a.Accept) - 2 }
	switch kind := chance.Intn(10); {
	case kind == 0:
		a.Props = chance.Intn(12) - 1
	case kind == 1:
		a.Accept = append(a.Accept[:0:0], a.Accept[:chance.Intn(len(a.Accept)+1)]...)
	case kind == 2:
		a.Guard = append(slices.Clone(a.Guard), number())
	case kind == 3 && len(a.Guard) > 0:
		a.Guard[chance.Intn(len(a.Guard))] = number()
	case kind == 4:
		a.Accept, a.Guard = nil, nil
	case len(a.Nodes) == 0:
	case kind == 5:
		a.Nodes[chance.Intn(len(a.Nodes))].P = chance.Intn(10) - 1
	case kind == 6:
		a.Nodes[chance.Intn(len(a.Nodes))].Lo = number()
	case kind == 7:
		a.Nodes[chance.Intn(len(a.Nodes))].Hi = number()
	case kind == 8:
		a.Nodes = append(a.Nodes, a.Nodes[chance.Intn(len(a.Nodes))])
	default:
		x := &a.Nodes[chance.Intn(len(a.Nodes))]
		x.Lo = x.Hi
	}
}

// P14.5

func TestTableOfWhatAddTold(t *testing.T) {
	for seed := range int64(40) {
		chance := rand.New(rand.NewSource(seed))
		n := int(seed) % 9
		s, m := store(t, n), newModel(n)
		refs := map[string]int{}
		var lists [][]int
		for range 25 {
			where := grow(chance, n, 1+chance.Intn(4))
			ref, err := s.Add(where)
			if must := m.add(where); ref != must || err != api.OK {
				t.Fatal(told(where), ref, must, err)
			}
			// Equal lists have equal references.
			if was, there := refs[told(where)]; there && was != ref {
				t.Fatal(told(where), was, ref)
			}
			refs[told(where)] = ref
			lists = append(lists, where)
			if chance.Intn(4) == 0 {
				lists = append(lists, slices.Clone(where))
			}
		}
		if !slices.Equal(s.Nodes(), m.nodes) {
			t.Fatal(toldNodes(s.Nodes()), toldNodes(m.nodes))
		}
		// Whatever was added behind.
		for _, where := range lists {
			got, err := guard.Table(n, s.Nodes(), refs[told(where)])
			if !slices.Equal(got, where) || err != api.OK {
				t.Fatal(told(where), told(got), err)
			}
		}
		// Unlike lists have unlike references.
		by := map[int]string{}
		for text, ref := range refs {
			if other, there := by[ref]; there {
				t.Fatal(text, other, ref)
			}
			by[ref] = text
		}
		// The nodes are those of an automaton that may be, and each leads where the model says.
		may(t, api.Auto{Props: n, Accept: make([]bool, 4), Guard: []int{-1, -1, -1, -1}, Nodes: s.Nodes()})
		for i, where := range m.tables {
			if got, err := guard.Table(n, s.Nodes(), i); !slices.Equal(got, where) || err != api.OK {
				t.Fatal(i, told(where), told(got), err)
			}
		}
	}
}

func TestAllListsOfTwoPropositions(t *testing.T) {
	s := store(t, 2)
	by := map[int]int{}
	for i := range 256 {
		where := []int{i & 3, i >> 2 & 3, i >> 4 & 3, i >> 6 & 3}
		ref, err := s.Add(where)
		if other, there := by[ref]; there || err != api.OK {
			t.Fatal(i, other, ref, err)
		}
		by[ref] = i
	}
	// Each list but the four of one state alone has a node, and each node is a list's.
	if s.Len() != 252 {
		t.Error(s.Len())
	}
	for ref, i := range by {
		where := []int{i & 3, i >> 2 & 3, i >> 4 & 3, i >> 6 & 3}
		tells(t, 2, s.Nodes(), ref, told(where))
	}
	may(t, api.Auto{Props: 2, Accept: make([]bool, 4), Guard: []int{0, 1, 2, 251}, Nodes: s.Nodes()})
	mayNot(t, api.Auto{Props: 2, Accept: make([]bool, 3), Guard: []int{0, 1, 2}, Nodes: s.Nodes()}, "no state")
}

func TestNodesOfAFullStoreAreThoseOfAnAutomaton(t *testing.T) {
	s := filled(t, 4096)
	a := sized(65, 65)
	a.Nodes = s.Nodes()
	for i := range a.Guard {
		a.Guard[i] = 4095 - i
	}
	may(t, a)
	for i := range 4096 {
		if where, err := guard.Table(1, a.Nodes, i); !slices.Equal(where, pair(i)) || err != api.OK {
			t.Fatal(i, where, err)
		}
	}
}

// P1, and the rules that hold everywhere

func TestTwoStoresBesideEachOther(t *testing.T) {
	x, y := store(t, 2), store(t, 2)
	if x == y {
		t.Fatal("New answers one store twice")
	}
	add(t, x, "0 1 0 1", 0)
	add(t, y, "0 0 1 1", 0)
	holds(t, x, "0 -1 -2")
	holds(t, y, "1 -1 -2")
	full, empty := filled(t, 4096), store(t, 1)
	refused(t, full, []int{70, 71}, api.ErrGuards)
	add(t, empty, "70 71", 0)
	holds(t, empty, "0 -71 -72")
	sameFilled(t, full, 4096)
}

// spoil writes over a list, and over its spare room.
func spoil[T any](l []T, x T) {
	l = l[:cap(l)]
	for i := range l {
		l[i] = x
	}
}

func TestAnswersShareNoMemory(t *testing.T) {
	s, m := store(t, 3), newModel(3)
	chance := rand.New(rand.NewSource(5))
	for range 60 {
		where := grow(chance, 3, 4)
		must := m.add(where)
		handed := slices.Grow(slices.Clone(where), 9)
		ref, err := s.Add(handed)
		if ref != must || err != api.OK {
			t.Fatal(ref, must, err)
		}
		// What was handed in may change behind the call.
		spoil(handed, 3)
		first, other := s.Nodes(), s.Nodes()
		spoil(first, api.Node{P: 99, Lo: 99, Hi: 99})
		if !slices.Equal(other, m.nodes) || !slices.Equal(s.Nodes(), m.nodes) {
			t.Fatal(toldNodes(other))
		}
		// What is made later is not written over by what was told.
		add(t, s, told(where), ref)
		table, _ := guard.Table(3, other, ref)
		again, _ := guard.Table(3, other, ref)
		spoil(table, -99)
		if !slices.Equal(again, where) || !slices.Equal(other, m.nodes) {
			t.Fatal(told(again), toldNodes(other))
		}
	}
	// A spoiled answer's spare room is none into which a store goes on.
	l := s.Nodes()
	must := s.Nodes()
	spoil(l, api.Node{})
	ref, err := s.Add(numbers("90 91*7"))
	spoil(l, api.Node{})
	if err != api.OK || !slices.Equal(s.Nodes()[:len(must)], must) || toldNodes(s.Nodes()[len(must):]) == "" {
		t.Error(ref, err, toldNodes(s.Nodes()))
	}
	tells(t, 3, s.Nodes(), ref, "90 91*7")
}

func TestNothingHandedInIsChangedOrReadBehindItsEnd(t *testing.T) {
	room := numbers("0 1 2 0 1 2 3 3 1 0 4 -1 1048576 5 5 5 6")
	was := slices.Clone(room)
	for i := range room {
		for j := i; j <= len(room); j++ {
			x, y := store(t, 2), store(t, 2)
			a, errA := x.Add(room[i:j])
			b, errB := y.Add(slices.Clip(slices.Clone(room[i:j])))
			if a != b || errA != errB || !slices.Equal(x.Nodes(), y.Nodes()) || !slices.Equal(room, was) {
				t.Fatal(i, j, a, b, errA, errB, room)
			}
			if errA == api.OK && j-i != 4 {
				t.Fatal(i, j)
			}
		}
	}
	l := nodes("2 -1 -2; 1 0 -3; 0 1 0; 0 3 4; 8 1 1")
	wasNodes := slices.Clone(l)
	for j := range len(l) + 1 {
		for ref := -3; ref < 7; ref++ {
			clipped := slices.Clip(slices.Clone(l[:j]))
			for a := range 8 {
				x, reachedX := guard.Go(l[:j], ref, api.Letter(a))
				y, reachedY := guard.Go(clipped, ref, api.Letter(a))
				if x != y || reachedX != reachedY {
					t.Fatal(j, ref, a, x, y)
				}
			}
			x, errX := guard.Table(3, l[:j], ref)
			y, errY := guard.Table(3, clipped, ref)
			if !slices.Equal(x, y) || errX != errY || !slices.Equal(l, wasNodes) {
				t.Fatal(j, ref, x, y, errX, errY)
			}
		}
	}
}

func TestNoAutomatonIsChangedOrReadBehindTheEnd(t *testing.T) {
	full := auto(3, "0110", "2 -1 0 99", "2 -1 -2; 1 0 -3; 0 1 0; 0 9 9")
	was := toldAuto(full)
	for states := range 5 {
		for guards := range 5 {
			for many := range 5 {
				a := api.Auto{Props: 3, Accept: full.Accept[:states], Guard: full.Guard[:guards], Nodes: full.Nodes[:many]}
				c := api.Auto{Props: 3, Accept: slices.Clip(slices.Clone(a.Accept)), Guard: slices.Clip(slices.Clone(a.Guard)), Nodes: slices.Clip(slices.Clone(a.Nodes))}
				must := api.OK
				if faults(c) != nil {
					must = api.ErrAuto
				}
				if guard.Check(a) != must || guard.Check(c) != must || toldAuto(full) != was {
					t.Fatal(toldAuto(a), guard.Check(a), guard.Check(c), must, toldAuto(full))
				}
			}
		}
	}
}

func TestNilAndEmptyAreTheSame(t *testing.T) {
	for n := range 9 {
		s := store(t, n)
		refused(t, s, nil, api.ErrArg)
		refused(t, s, []int{}, api.ErrArg)
	}
	for _, l := range [][]api.Node{nil, {}, make([]api.Node, 0, 8)} {
		goes(t, l, -4, 9, 3)
		fails(t, l, 0, 9)
		tells(t, 1, l, -4, "3 3")
		noTable(t, 1, l, 0, api.ErrAuto)
		may(t, api.Auto{Props: 1, Accept: []bool{true}, Guard: []int{-1}, Nodes: l})
		mayNot(t, api.Auto{Props: 1, Accept: []bool{}, Guard: nil, Nodes: l}, "states")
		mayNot(t, api.Auto{Props: 1, Accept: nil, Guard: []int{}, Nodes: l}, "states")
		mayNot(t, api.Auto{Props: 1, Accept: []bool{true}, Guard: []int{}, Nodes: l}, "guards")
		mayNot(t, api.Auto{Props: 1, Accept: []bool{true}, Guard: nil, Nodes: l}, "guards")
	}
}

// odd tells a number such as no one asks for.
func odd(chance *rand.Rand) int {
	switch chance.Intn(6) {
	case 0:
		return chance.Intn(12) - 4
	case 1:
		return []int{math.MinInt, math.MaxInt, math.MinInt + 1, math.MaxInt - 1, 1 << 20, -1 << 20, 1 << 32, -1 << 32, 63, 64}[chance.Intn(10)]
	case 2:
		return int(chance.Uint64())
	}
	return chance.Intn(6) - 3
}

func TestCallsAreCalm(t *testing.T) {
	chance := rand.New(rand.NewSource(6))
	for range 20000 {
		s, err := guard.New(odd(chance))
		if (s == nil) != (err != api.OK) {
			t.Fatal(s, err)
		}
		for range 3 {
			where := make([]int, chance.Intn(10))
			for i := range where {
				where[i] = odd(chance)
				if chance.Intn(3) > 0 {
					where[i] = chance.Intn(3)
				}
			}
			ref, err := s.Add(where)
			if err == api.OK {
				if got, e := guard.Table(ofLength(len(where)), s.Nodes(), ref); !slices.Equal(got, where) || e != api.OK {
					t.Fatal(told(where), told(got), e)
				}
			} else if ref != 0 || err != api.ErrArg && err != api.ErrNil {
				t.Fatal(ref, err)
			}
		}
		l := make([]api.Node, chance.Intn(6))
		for i := range l {
			l[i] = api.Node{P: odd(chance), Lo: odd(chance), Hi: odd(chance)}
		}
		ref, n, a := odd(chance), odd(chance), api.Letter(chance.Intn(256))
		state, reached := guard.Go(l, ref, a)
		if mustState, must := from(l, ref, a, 0); state != mustState || reached != must {
			t.Fatal(toldNodes(l), ref, a, state, reached)
		}
		where, err := guard.Table(n, l, ref)
		if mustWhere, must := tableOf(n, l, ref); !slices.Equal(where, mustWhere) || err != must {
			t.Fatal(n, toldNodes(l), ref, told(where), err)
		}
		x := api.Auto{Props: odd(chance), Accept: make([]bool, chance.Intn(4)), Guard: make([]int, chance.Intn(4)), Nodes: l}
		for i := range x.Guard {
			x.Guard[i] = odd(chance)
		}
		must := api.OK
		if faults(x) != nil {
			must = api.ErrAuto
		}
		if err := guard.Check(x); err != must {
			t.Fatal(toldAuto(x), err)
		}
	}
}

// ofLength tells of how many propositions so many letters are.
func ofLength(many int) int {
	n := 0
	for 1<<n < many {
		n++
	}
	return n
}

func TestGreatListsAreRefusedAtOnce(t *testing.T) {
	great := make([]api.Node, 1<<20)
	if err := guard.Check(api.Auto{Props: 8, Accept: make([]bool, 1<<20), Guard: make([]int, 1<<20), Nodes: great}); err != api.ErrAuto {
		t.Error(err)
	}
	mayNotBe := api.Auto{Props: 8, Accept: make([]bool, 2), Guard: make([]int, 2), Nodes: great}
	if err := guard.Check(mayNotBe); err != api.ErrAuto {
		t.Error(err)
	}
	// Go and Table have no limit of their own: a node far behind is one.
	great[1<<20-1] = api.Node{P: 1, Lo: -5, Hi: -6}
	goes(t, great, 1<<20-1, 0, 4)
	tells(t, 2, great, 1<<20-1, "4 4 5 5")
	fails(t, great, 0, 0)
	refused(t, store(t, 8), make([]int, 1<<20), api.ErrArg)
}

func TestAskingChangesNothing(t *testing.T) {
	s := store(t, 2)
	add(t, s, "0 1 2 3", 2)
	must := toldNodes(s.Nodes())
	for range 3 {
		l := s.Nodes()
		s.Len()
		guard.Go(l, 2, 3)
		guard.Table(2, l, 2)
		guard.Check(api.Auto{Props: 2, Accept: make([]bool, 4), Guard: make([]int, 4), Nodes: l})
		refused(t, s, numbers("0 1"), api.ErrArg)
		if toldNodes(l) != must || toldNodes(s.Nodes()) != must {
			t.Fatal(toldNodes(l))
		}
	}
	add(t, s, "0 0 1 1", 3)
}

func TestAnswersHangOnWhatWasAddedAlone(t *testing.T) {
	run := func() string {
		chance := rand.New(rand.NewSource(8))
		s, _ := guard.New(5)
		var all []int
		for range 120 {
			ref, err := s.Add(grow(chance, 5, 4))
			all = append(all, ref, int(err), s.Len())
		}
		where, _ := guard.Table(5, s.Nodes(), s.Len()-1)
		return told(all) + told(where) + toldNodes(s.Nodes())
	}
	must := run()
	done := make(chan string)
	for range 8 {
		go func() { done <- run() }()
	}
	for range 8 {
		if got := <-done; got != must {
			t.Error("another run tells other nodes")
		}
	}
}

func TestOneListOfNodesAskedAtOnce(t *testing.T) {
	s := store(t, 8)
	ref, _ := s.Add(counted(0))
	l := s.Nodes()
	a := sized(256, 256)
	a.Props, a.Nodes = 8, l
	done := make(chan bool)
	for range 8 {
		go func() {
			where, err := guard.Table(8, l, ref)
			done <- slices.Equal(where, counted(0)) && err == api.OK && guard.Check(a) == api.OK
		}()
	}
	for range 8 {
		if !<-done {
			t.Error("at once, another answer")
		}
	}
}
