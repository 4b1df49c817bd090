package part_test

import (
	"math/rand"
	"slices"
	"strconv"
	"strings"

	"rejoinder/api"
	"rejoinder/guard"
)

// numbers reads numbers, of which one may be said so many times: "0 1 5*4".
func numbers(s string) []int {
	l := []int{}
	for _, word := range strings.Fields(s) {
		w, times, _ := strings.Cut(word, "*")
		n, err := strconv.Atoi(w)
		if err != nil {
			panic("no number: " + word)
		}
		many := 1
		if times != "" {
			many, _ = strconv.Atoi(times)
		}
		l = append(l, slices.Repeat([]int{n}, many)...)
	}
	return l
}

// told tells numbers: "1 6".
func told(l []int) string {
	var words []string
	for _, n := range l {
		words = append(words, strconv.Itoa(n))
	}
	return strings.Join(words, " ")
}

// letters reads a trace: "0 1 5*4".
func letters(s string) []api.Letter {
	var tr []api.Letter
	for _, n := range numbers(s) {
		tr = append(tr, api.Letter(n))
	}
	return tr
}

// nodes reads nodes, each P, Lo and Hi: "0 -1 -2; 1 -1 0".
func nodes(s string) []api.Node {
	var l []api.Node
	for _, text := range strings.Split(s, ";") {
		switch x := numbers(text); len(x) {
		case 0:
		case 3:
			l = append(l, api.Node{P: x[0], Lo: x[1], Hi: x[2]})
		default:
			panic("no node: " + text)
		}
	}
	return l
}

// bools reads bools as noughts and ones: "0110".
func bools(s string) []bool {
	l := []bool{}
	for _, b := range s {
		l = append(l, b == '1')
	}
	return l
}

// auto reads an automaton: its propositions, which states accept, their guards, the nodes.
func auto(props int, accept, guards, nodesText string) api.Auto {
	return api.Auto{Props: props, Accept: bools(accept), Guard: numbers(guards), Nodes: nodes(nodesText)}
}

// toldAuto tells an automaton in a text.
func toldAuto(a api.Auto) string {
	accept := ""
	for _, is := range a.Accept {
		accept += map[bool]string{false: "0", true: "1"}[is]
	}
	var texts []string
	for _, x := range a.Nodes {
		texts = append(texts, told([]int{x.P, x.Lo, x.Hi}))
	}
	return strconv.Itoa(a.Props) + ": " + accept + ", " + told(a.Guard) + ", " + strings.Join(texts, "; ")
}

// built tells the automaton whose states lead, by rising letters, where the rows say.
func built(props int, accept []bool, rows [][]int) api.Auto {
	s, err := guard.New(props)
	if err != api.OK {
		panic(err)
	}
	a := api.Auto{Props: props, Accept: accept}
	for _, where := range rows {
		ref, err := s.Add(where)
		if err != api.OK {
			panic(err)
		}
		a.Guard = append(a.Guard, ref)
	}
	a.Nodes = s.Nodes()
	return a
}

// leads reads an automaton by its rows: "0 1; 0 2; 0 1".
func leads(props int, accept, rows string) api.Auto {
	var l [][]int
	for _, text := range strings.Split(rows, ";") {
		l = append(l, numbers(text))
	}
	return built(props, bools(accept), l)
}

// The tests hold what is told against a model that looks at all pairs of states, again and again, and that goes along the nodes by itself.

// next tells the state to which a letter leads.
func next(a api.Auto, s int, l api.Letter) int {
	ref := a.Guard[s]
	for ref >= 0 {
		x := a.Nodes[ref]
		ref = x.Lo
		if int(l)/[]int{1, 2, 4, 8, 16, 32, 64, 128}[x.P]%2 == 1 {
			ref = x.Hi
		}
	}
	return -1 - ref
}

// after tells the state to which a trace leads.
func after(a api.Auto, s int, tr []api.Letter) int {
	for _, l := range tr {
		s = next(a, s, l)
	}
	return s
}

// parts tells whether a trace parts two states.
func parts(a api.Auto, p, q int, tr []api.Letter) bool {
	return a.Accept[after(a, p, tr)] != a.Accept[after(a, q, tr)]
}

// model is what must be told of an automaton.
type model struct {
	a    api.Auto
	to   [][]int
	long [][]int // of each pair how long a trace must be that parts it; -1: none does
}

// newModel looks at all pairs until no more are parted: in each round those that a letter leads to one that was parted in the last.
func newModel(a api.Auto) *model {
	m := &model{a: a}
	for s := range a.Accept {
		m.to = append(m.to, nil)
		m.long = append(m.long, slices.Repeat([]int{-1}, len(a.Accept)))
		for l := range 1 << a.Props {
			m.to[s] = append(m.to[s], next(a, s, api.Letter(l)))
		}
	}
	for length := 0; m.round(length); length++ {
	}
	return m
}

// round tells whether there are pairs for which a trace must be so long.
func (m *model) round(length int) bool {
	any := false
	for p := range m.long {
		for q := range p {
			if m.long[p][q] < 0 && m.parted(p, q, length) {
				m.long[p][q], m.long[q][p], any = length, length, true
			}
		}
	}
	return any
}

// parted tells whether a trace of just this length parts two states, no shorter one doing so.
func (m *model) parted(p, q, length int) bool {
	if length == 0 {
		return m.a.Accept[p] != m.a.Accept[q]
	}
	for l := range m.to[p] {
		if m.long[m.to[p][l]][m.to[q][l]] == length-1 {
			return true
		}
	}
	return false
}

// alike tells whether two states are alike.
func (m *model) alike(p, q int) bool { return m.long[p][q] < 0 }

// classes tells the classes: a state's is that of the first one that it is like, or a new one.
func (m *model) classes() []int {
	var of []int
	many := 0
	for s := range m.long {
		first := 0
		for !m.alike(first, s) {
			first++
		}
		if first == s {
			of = append(of, many)
			many++
		} else {
			of = append(of, of[first])
		}
	}
	return of
}

// parts tells the trace that parts two states, which are not alike: letter by letter the least by which what is left is as short as may be.
func (m *model) parts(p, q int) []api.Letter {
	tr := []api.Letter{}
	for m.long[p][q] > 0 {
		l := 0
		for m.long[m.to[p][l]][m.to[q][l]] != m.long[p][q]-1 {
			l++
		}
		tr = append(tr, api.Letter(l))
		p, q = m.to[p][l], m.to[q][l]
	}
	return tr
}

// reached tells the states that are reached: each time the first state from which one is missing is looked for anew.
func (m *model) reached() []int {
	met := []int{0}
	for {
		missing := -1
		for _, s := range met {
			for _, to := range m.to[s] {
				if missing < 0 && !slices.Contains(met, to) {
					missing = to
				}
			}
		}
		if missing < 0 {
			return met
		}
		met = append(met, missing)
	}
}

// traces tells all traces of at most so many letters, each below few: shorter ones first, else rising.
func traces(long, few int) [][]api.Letter {
	all := [][]api.Letter{nil}
	begin := 0
	for range long {
		end := len(all)
		for _, tr := range all[begin:end] {
			for x := range few {
				all = append(all, append(slices.Clip(tr), api.Letter(x)))
			}
		}
		begin = end
	}
	return all
}

// partings tells all partings of so many states, each as classes that are numbered by their least states.
func partings(n int) [][]int {
	if n == 0 {
		return [][]int{nil}
	}
	var all [][]int
	for _, of := range partings(n - 1) {
		for c := range highest(of) + 2 {
			all = append(all, append(slices.Clip(of), c))
		}
	}
	return all
}

// highest tells the greatest class, -1 if there is none.
func highest(of []int) int { return slices.Max(append([]int{-1}, of...)) }

// growRow tells where the letters lead: by chance, or as some propositions alone say.
func growRow(chance *rand.Rand, n, states int) []int {
	where := make([]int, 1<<n)
	mask := chance.Intn(1 << n)
	if chance.Intn(3) == 0 {
		mask = 1<<n - 1
	}
	for l := range where {
		if l&mask == l {
			where[l] = chance.Intn(states)
		} else {
			where[l] = where[l&mask]
		}
	}
	return where
}

// growAuto tells an automaton of so many states, of which one in so many accepts.
func growAuto(chance *rand.Rand, n, states, few int) api.Auto {
	accept := make([]bool, states)
	rows := make([][]int, states)
	for s := range rows {
		accept[s] = chance.Intn(few) == 0
		rows[s] = growRow(chance, n, states)
	}
	return built(n, accept, rows)
}

// blown tells an automaton with more states: each is one of a small automaton's, and leads to some state that is the one to which that leads. So those that are the same one are alike.
func blown(chance *rand.Rand, small api.Auto, states int) (api.Auto, []int) {
	of := make([]int, states)
	for s := range of {
		of[s] = chance.Intn(len(small.Accept))
		if s < len(small.Accept) {
			of[s] = s
		}
	}
	chance.Shuffle(states, func(i, j int) { of[i], of[j] = of[j], of[i] })
	accept := make([]bool, states)
	rows := make([][]int, states)
	for s := range rows {
		accept[s] = small.Accept[of[s]]
		for l := range 1 << small.Props {
			to := next(small, of[s], api.Letter(l))
			at := chance.Intn(states)
			for of[at] != to {
				at = (at + 1) % states
			}
			rows[s] = append(rows[s], at)
		}
	}
	return built(small.Props, accept, rows), of
}

// renamed tells an automaton whose state s has the number as[s].
func renamed(a api.Auto, as []int) api.Auto {
	accept := make([]bool, len(as))
	rows := make([][]int, len(as))
	for s, name := range as {
		accept[name] = a.Accept[s]
		for l := range 1 << a.Props {
			rows[name] = append(rows[name], as[next(a, s, api.Letter(l))])
		}
	}
	return built(a.Props, accept, rows)
}

// chain tells an automaton of so many states, each of which one letter leads to the next one, all others to the state back; the last one alone accepts, and stays.
func chain(n, states int, by api.Letter, back int) api.Auto {
	accept := make([]bool, states)
	accept[states-1] = true
	rows := make([][]int, states)
	for s := range rows {
		rows[s] = slices.Repeat([]int{back}, 1<<n)
		rows[s][by] = s + 1
	}
	rows[states-1] = slices.Repeat([]int{states - 1}, 1<<n)
	return built(n, accept, rows)
}
