package canon_test

import (
	"math/rand"
	"slices"
	"strconv"
	"strings"

	"rejoinder/api"
)

// numbers reads numbers, of which one may be said so many times: "0 1 5*4".
func numbers(s string) []int {
	l := []int{}
	for _, word := range strings.Fields(s) {
		w, times, _ := strings.Cut(word, "*")
		n, err := strconv.Atoi(w)
		if err != nil {
			panic("no number: " + word)
		}
		many := 1
		if times != "" {
			many, _ = strconv.Atoi(times)
		}
		l = append(l, slices.Repeat([]int{n}, many)...)
	}
	return l
}

// told tells numbers: "1 6".
func told(l []int) string {
	var words []string
	for _, n := range l {
		words = append(words, strconv.Itoa(n))
	}
	return strings.Join(words, " ")
}

// letters reads a trace: "0 1 5*4".
func letters(s string) []api.Letter {
	var tr []api.Letter
	for _, n := range numbers(s) {
		tr = append(tr, api.Letter(n))
	}
	return tr
}

// nodes reads nodes, each P, Lo and Hi: "0 -1 -2; 1 -1 0".
func nodes(s string) []api.Node {
	var l []api.Node
	for _, text := range strings.Split(s, ";") {
		switch x := numbers(text); len(x) {
		case 0:
		case 3:
			l = append(l, api.Node{P: x[0], Lo: x[1], Hi: x[2]})
		default:
			panic("no node: " + text)
		}
	}
	return l
}

// bools reads bools as noughts and ones: "0110".
func bools(s string) []bool {
	l := []bool{}
	for _, b := range s {
		l = append(l, b == '1')
	}
	return l
}

// auto reads an automaton: its propositions, which states accept, their guards, the nodes.
func auto(props int, accept, guards, nodesText string) api.Auto {
	return api.Auto{Props: props, Accept: bools(accept), Guard: numbers(guards), Nodes: nodes(nodesText)}
}

// toldAuto tells an automaton in a text.
func toldAuto(a api.Auto) string {
	accept := ""
	for _, is := range a.Accept {
		accept += map[bool]string{false: "0", true: "1"}[is]
	}
	var texts []string
	for _, x := range a.Nodes {
		texts = append(texts, told([]int{x.P, x.Lo, x.Hi}))
	}
	return strconv.Itoa(a.Props) + ": " + accept + ", " + told(a.Guard) + ", " + strings.Join(texts, "; ")
}

// decided makes nodes for the tests by the words of chapter 14, from tables alone: a list of states hangs on propositions or it does not.
type decided struct {
	props int
	nodes []api.Node
	refs  map[string]int
}

// as tells where letters lead if a proposition holds in all of them, or in none.
func as(where []int, p int, has bool) []int {
	l := make([]int, len(where))
	for a := range where {
		if has {
			l[a] = where[a|1<<p]
		} else {
			l[a] = where[a&^(1<<p)]
		}
	}
	return l
}

// hangs tells the first proposition on which states hang; as many as there are, if they hang on none.
func (d *decided) hangs(where []int) int {
	for p := range d.props {
		if !slices.Equal(as(where, p, false), as(where, p, true)) {
			return p
		}
	}
	return d.props
}

// add tells the reference of a list of states, and makes what it needs.
func (d *decided) add(where []int) int {
	p := d.hangs(where)
	if p == d.props {
		return -1 - where[0]
	}
	lo := d.add(as(where, p, false))
	hi := d.add(as(where, p, true))
	text := told(where)
	if _, there := d.refs[text]; !there {
		d.refs[text] = len(d.nodes)
		d.nodes = append(d.nodes, api.Node{P: p, Lo: lo, Hi: hi})
	}
	return d.refs[text]
}

// built tells the automaton whose states lead, by rising letters, where the rows say.
func built(props int, accept []bool, rows [][]int) api.Auto {
	d := &decided{props: props, refs: map[string]int{}}
	a := api.Auto{Props: props, Accept: accept}
	for _, where := range rows {
		a.Guard = append(a.Guard, d.add(where))
	}
	a.Nodes = d.nodes
	return a
}

// leads reads an automaton by its rows: "0 1; 0 2; 0 1".
func leads(props int, accept, rows string) api.Auto {
	var l [][]int
	for _, text := range strings.Split(rows, ";") {
		l = append(l, numbers(text))
	}
	return built(props, bools(accept), l)
}

// The tests hold what is told against a model that looks at all pairs of states, again and again, and that goes along the nodes by itself.

// next tells the state to which a letter leads.
func next(a api.Auto, s int, l api.Letter) int {
	ref := a.Guard[s]
	for ref >= 0 {
		x := a.Nodes[ref]
		ref = x.Lo
		if int(l)/[]int{1, 2, 4, 8, 16, 32, 64, 128}[x.P]%2 == 1 {
			ref = x.Hi
		}
	}
	return -1 - ref
}

// after tells the state to which a trace leads from the state 0.
func after(a api.Auto, tr []api.Letter) int {
	s := 0
	for _, l := range tr {
		s = next(a, s, l)
	}
	return s
}

// accepts tells whether a trace is accepted.
func accepts(a api.Auto, tr []api.Letter) bool { return a.Accept[after(a, tr)] }

// rowsOf tells of each state where it leads, by rising letters.
func rowsOf(a api.Auto) [][]int {
	rows := make([][]int, len(a.Accept))
	for s := range rows {
		for l := range 1 << a.Props {
			rows[s] = append(rows[s], next(a, s, api.Letter(l)))
		}
	}
	return rows
}

// model is what must be told of an automaton.
type model struct {
	a      api.Auto
	to     [][]int
	parted [][]bool // of each pair whether a trace parts it
}

// newModel looks at all pairs until no more are parted.
func newModel(a api.Auto) *model {
	m := &model{a: a, to: rowsOf(a)}
	for p := range a.Accept {
		m.parted = append(m.parted, make([]bool, len(a.Accept)))
		for q := range a.Accept {
			m.parted[p][q] = a.Accept[p] != a.Accept[q]
		}
	}
	for m.round() {
	}
	return m
}

// round parts pairs that a letter leads to such as are parted, and tells whether there were any.
func (m *model) round() bool {
	any := false
	for p := range m.parted {
		for q := range p {
			if !m.parted[p][q] && m.leadsApart(p, q) {
				m.parted[p][q], m.parted[q][p], any = true, true, true
			}
		}
	}
	return any
}

// leadsApart tells whether a letter leads two states to such as are parted.
func (m *model) leadsApart(p, q int) bool {
	for l := range m.to[p] {
		if m.parted[m.to[p][l]][m.to[q][l]] {
			return true
		}
	}
	return false
}

// reached tells the states that are reached: each time the first state from which one is missing is looked for anew.
func (m *model) reached() []int {
	met := []int{0}
	for {
		missing := -1
		for _, s := range met {
			for _, to := range m.to[s] {
				if missing < 0 && !slices.Contains(met, to) {
					missing = to
				}
			}
		}
		if missing < 0 {
			return met
		}
		met = append(met, missing)
	}
}

// smallest tells the smallest automaton: of the states that are reached those that are like none ahead of them.
func (m *model) smallest() api.Auto {
	var first []int
	like := func(s int) int { return slices.IndexFunc(first, func(p int) bool { return !m.parted[p][s] }) }
	for _, s := range m.reached() {
		if like(s) < 0 {
			first = append(first, s)
		}
	}
	var accept []bool
	var rows [][]int
	for _, s := range first {
		var where []int
		for _, to := range m.to[s] {
			where = append(where, like(to))
		}
		accept = append(accept, m.a.Accept[s])
		rows = append(rows, where)
	}
	return built(m.a.Props, accept, rows)
}

// byTraces tells the smallest automaton by traces alone, which come shorter ones first, else rising: a trace leads to a new state, if with none ahead of it the same traces go on to such as are accepted. Of few states alone: the traces that go on are looked at one by one.
func byTraces(a api.Auto) api.Auto {
	few := traces(len(a.Accept)-1, 1<<a.Props)
	says := func(tr []api.Letter) string {
		text := ""
		for _, on := range few {
			text += map[bool]string{false: "0", true: "1"}[accepts(a, slices.Concat(tr, on))]
		}
		return text
	}
	var states [][]api.Letter
	var texts []string
	for _, tr := range few {
		if text := says(tr); !slices.Contains(texts, text) {
			states, texts = append(states, tr), append(texts, text)
		}
	}
	var accept []bool
	var rows [][]int
	for _, tr := range states {
		var where []int
		for l := range 1 << a.Props {
			where = append(where, slices.Index(texts, says(append(slices.Clip(tr), api.Letter(l)))))
		}
		accept = append(accept, accepts(a, tr))
		rows = append(rows, where)
	}
	return built(a.Props, accept, rows)
}

// unlike tells whether a trace is accepted by just one of two automata: all pairs of states to which one trace leads are gone through.
func unlike(a, b api.Auto) bool {
	one, other := rowsOf(a), rowsOf(b)
	queue := [][2]int{{0, 0}}
	met := map[[2]int]int{{0, 0}: 0}
	for len(queue) > 0 {
		x := queue[0]
		queue = queue[1:]
		if a.Accept[x[0]] != b.Accept[x[1]] {
			return true
		}
		for l := range one[x[0]] {
			y := [2]int{one[x[0]][l], other[x[1]][l]}
			if _, there := met[y]; !there {
				met[y] = len(met)
				queue = append(queue, y)
			}
		}
	}
	return false
}

// traces tells all traces of at most so many letters, each below few: shorter ones first, else rising.
func traces(long, few int) [][]api.Letter {
	all := [][]api.Letter{nil}
	begin := 0
	for range long {
		end := len(all)
		for _, tr := range all[begin:end] {
			for x := range few {
				all = append(all, append(slices.Clip(tr), api.Letter(x)))
			}
		}
		begin = end
	}
	return all
}

// growTrace tells a trace of n propositions.
func growTrace(chance *rand.Rand, n, long int) []api.Letter {
	tr := make([]api.Letter, long)
	for i := range tr {
		tr[i] = api.Letter(chance.Intn(1 << n))
	}
	return tr
}

// growRow tells where the letters lead: by chance, or as some propositions alone say.
func growRow(chance *rand.Rand, n, states int) []int {
	where := make([]int, 1<<n)
	mask := chance.Intn(1 << n)
	if chance.Intn(3) == 0 {
		mask = 1<<n - 1
	}
	for l := range where {
		if l&mask == l {
			where[l] = chance.Intn(states)
		} else {
			where[l] = where[l&mask]
		}
	}
	return where
}

// growAuto tells an automaton of so many states, of which one in so many accepts.
func growAuto(chance *rand.Rand, n, states, few int) api.Auto {
	accept := make([]bool, states)
	rows := make([][]int, states)
	for s := range rows {
		accept[s] = chance.Intn(few) == 0
		rows[s] = growRow(chance, n, states)
	}
	return built(n, accept, rows)
}

// blown tells an automaton with more states that accepts the same traces: each is one of a small automaton's, the state 0 its 0, and leads to some state that is the one to which that leads.
func blown(chance *rand.Rand, small api.Auto, states int) api.Auto {
	of := make([]int, states)
	for s := range of {
		of[s] = chance.Intn(len(small.Accept))
		if s < len(small.Accept) {
			of[s] = s
		}
	}
	chance.Shuffle(states-1, func(i, j int) { of[i+1], of[j+1] = of[j+1], of[i+1] })
	accept := make([]bool, states)
	rows := make([][]int, states)
	for s := range rows {
		accept[s] = small.Accept[of[s]]
		for l := range 1 << small.Props {
			to := next(small, of[s], api.Letter(l))
			at := chance.Intn(states)
			for of[at] != to {
				at = (at + 1) % states
			}
			rows[s] = append(rows[s], at)
		}
	}
	return built(small.Props, accept, rows)
}

// renamed tells an automaton whose state s has the number names[s].
func renamed(a api.Auto, names []int) api.Auto {
	accept := make([]bool, len(names))
	rows := make([][]int, len(names))
	for s, name := range names {
		accept[name] = a.Accept[s]
		for l := range 1 << a.Props {
			rows[name] = append(rows[name], names[next(a, s, api.Letter(l))])
		}
	}
	return built(a.Props, accept, rows)
}

// shuffled tells an automaton whose nodes stand in another order, each behind those to which it goes on.
func shuffled(chance *rand.Rand, a api.Auto) api.Auto {
	place := make([]int, len(a.Nodes))
	for i := range place {
		place[i] = -1
	}
	there := func(ref int) bool { return ref < 0 || place[ref] >= 0 }
	moved := func(ref int) int {
		if ref < 0 {
			return ref
		}
		return place[ref]
	}
	b := api.Auto{Props: a.Props, Accept: slices.Clone(a.Accept)}
	for len(b.Nodes) < len(a.Nodes) {
		at := chance.Intn(len(a.Nodes))
		for x := a.Nodes[at]; place[at] >= 0 || !there(x.Lo) || !there(x.Hi); x = a.Nodes[at] {
			at = (at + 1) % len(a.Nodes)
		}
		x := a.Nodes[at]
		place[at] = len(b.Nodes)
		b.Nodes = append(b.Nodes, api.Node{P: x.P, Lo: moved(x.Lo), Hi: moved(x.Hi)})
	}
	for _, ref := range a.Guard {
		b.Guard = append(b.Guard, moved(ref))
	}
	return b
}

// rising tells the numbers from 0 on.
func rising(many int) []int {
	var l []int
	for i := range many {
		l = append(l, i)
	}
	return l
}

// chain tells an automaton of so many states, each of which one letter leads to the next one, all others to the state back; the last one alone accepts, and stays.
func chain(n, states int, by api.Letter, back int) api.Auto {
	accept := make([]bool, states)
	accept[states-1] = true
	rows := make([][]int, states)
	for s := range rows {
		rows[s] = slices.Repeat([]int{back}, 1<<n)
		rows[s][by] = s + 1
	}
	rows[states-1] = slices.Repeat([]int{states - 1}, 1<<n)
	return built(n, accept, rows)
}
