package watch_test

import (
	"math/rand"
	"slices"
	"strconv"
	"strings"

	"rejoinder/api"
)

// numbers reads numbers, of which one may be said so many times: "0 1 5*4".
func numbers(s string) []int {
	l := []int{}
	for _, word := range strings.Fields(s) {
		w, times, _ := strings.Cut(word, "*")
		n, err := strconv.Atoi(w)
		if err != nil {
			panic("no number: " + word)
		}
		many := 1
		if times != "" {
			many, _ = strconv.Atoi(times)
		}
		l = append(l, slices.Repeat([]int{n}, many)...)
	}
	return l
}

// told tells numbers: "1 6".
func told[T int | api.Letter](l []T) string {
	var words []string
	for _, n := range l {
		words = append(words, strconv.Itoa(int(n)))
	}
	return strings.Join(words, " ")
}

// letters reads a trace: "0 1 5*4".
func letters(s string) []api.Letter {
	var tr []api.Letter
	for _, n := range numbers(s) {
		tr = append(tr, api.Letter(n))
	}
	return tr
}

// nodes reads nodes, each P, Lo and Hi: "0 -1 -2; 1 -1 0".
func nodes(s string) []api.Node {
	var l []api.Node
	for _, text := range strings.Split(s, ";") {
		switch x := numbers(text); len(x) {
		case 0:
		case 3:
			l = append(l, api.Node{P: x[0], Lo: x[1], Hi: x[2]})
		default:
			panic("no node: " + text)
		}
	}
	return l
}

// bools reads bools as noughts and ones: "0110".
func bools(s string) []bool {
	l := []bool{}
	for _, b := range s {
		l = append(l, b == '1')
	}
	return l
}

// toldBools tells bools as noughts and ones.
func toldBools(l []bool) string {
	s := ""
	for _, is := range l {
		s += map[bool]string{false: "0", true: "1"}[is]
	}
	return s
}

// auto reads an automaton: its propositions, which states accept, their guards, the nodes.
func auto(props int, accept, guards, nodesText string) api.Auto {
	return api.Auto{Props: props, Accept: bools(accept), Guard: numbers(guards), Nodes: nodes(nodesText)}
}

// toldAuto tells an automaton in a text.
func toldAuto(a api.Auto) string {
	var texts []string
	for _, x := range a.Nodes {
		texts = append(texts, told([]int{x.P, x.Lo, x.Hi}))
	}
	return strconv.Itoa(a.Props) + ": " + toldBools(a.Accept) + ", " + told(a.Guard) + ", " + strings.Join(texts, "; ")
}

// decided makes nodes for the tests by the words of chapter 14, from tables alone: a list of states hangs on propositions or it does not.
type decided struct {
	props int
	nodes []api.Node
	refs  map[string]int
}

// as tells where letters lead if a proposition holds in all of them, or in none.
func as(where []int, p int, has bool) []int {
	l := make([]int, len(where))
	for a := range where {
		if has {
			l[a] = where[a|1<<p]
		} else {
			l[a] = where[a&^(1<<p)]
		}
	}
	return l
}

// hangs tells the first proposition on which states hang; as many as there are, if they hang on none.
func (d *decided) hangs(where []int) int {
	for p := range d.props {
		if !slices.Equal(as(where, p, false), as(where, p, true)) {
			return p
		}
	}
	return d.props
}

// add tells the reference of a list of states, and makes what it needs.
func (d *decided) add(where []int) int {
	p := d.hangs(where)
	if p == d.props {
		return -1 - where[0]
	}
	lo := d.add(as(where, p, false))
	hi := d.add(as(where, p, true))
	text := told(where)
	if _, there := d.refs[text]; !there {
		d.refs[text] = len(d.nodes)
		d.nodes = append(d.nodes, api.Node{P: p, Lo: lo, Hi: hi})
	}
	return d.refs[text]
}

// built tells the automaton whose states lead, by rising letters, where the rows say.
func built(props int, accept []bool, rows [][]int) api.Auto {
	d := &decided{props: props, refs: map[string]int{}}
	a := api.Auto{Props: props, Accept: accept}
	for _, where := range rows {
		if len(where) != 1<<props {
			panic("no row: " + told(where))
		}
		a.Guard = append(a.Guard, d.add(where))
	}
	a.Nodes = d.nodes
	return a
}

// leads reads an automaton by its rows: "0 1; 0 2; 0 1".
func leads(props int, accept, rows string) api.Auto {
	var l [][]int
	for _, text := range strings.Split(rows, ";") {
		l = append(l, numbers(text))
	}
	return built(props, bools(accept), l)
}

// next tells the state to which a letter leads.
func next(a api.Auto, s int, l api.Letter) int {
	ref := a.Guard[s]
	for ref >= 0 {
		x := a.Nodes[ref]
		ref = x.Lo
		if int(l)/[]int{1, 2, 4, 8, 16, 32, 64, 128}[x.P]%2 == 1 {
			ref = x.Hi
		}
	}
	return -1 - ref
}

// accepts tells whether a trace is accepted.
func accepts(a api.Auto, tr []api.Letter) bool {
	s := 0
	for _, l := range tr {
		s = next(a, s, l)
	}
	return a.Accept[s]
}

// rowsOf tells of each state where it leads, by rising letters.
func rowsOf(a api.Auto) [][]int {
	rows := make([][]int, len(a.Accept))
	for s := range rows {
		for l := range 1 << a.Props {
			rows[s] = append(rows[s], next(a, s, api.Letter(l)))
		}
	}
	return rows
}

// toldVerdicts tells verdicts, a letter each: "NnaY" for No, Never, Always, Yes.
func toldVerdicts(l []api.Verdict) string {
	s := ""
	for _, v := range l {
		switch v {
		case api.No:
			s += "N"
		case api.Yes:
			s += "Y"
		case api.Never:
			s += "n"
		case api.Always:
			s += "a"
		default:
			s += "?"
		}
	}
	return s
}

// The tests hold what is told against a model that goes forward alone: of each state it tells where the traces of no letter lead, of one, of two, and so on. It keeps the letters that came, and no state.

// model is an automaton, and of each of its states what must be told.
type model struct {
	a    api.Auto
	told []api.Verdict
	off  []int // -1 where no trace leads to an accepting state
}

func newModel(a api.Auto) *model {
	m := &model{a: a}
	rows := rowsOf(a)
	for s := range rows {
		v, off := forward(a, rows, s)
		m.told, m.off = append(m.told, v), append(m.off, off)
	}
	return m
}

// forward tells what must be told of one state, and how far off it is: to each state to which traces lead one of fewer letters leads than there are states.
func forward(a api.Auto, rows [][]int, from int) (api.Verdict, int) {
	level := map[int]bool{from: true}
	there := map[int]bool{}
	off := -1
	all, none := true, true
	for length := range rows {
		longer := map[int]bool{}
		for s := range level {
			if a.Accept[s] && off < 0 {
				off = length
			}
			all, none = all && a.Accept[s], none && !a.Accept[s]
			there[s] = true
			for _, to := range rows[s] {
				longer[to] = true
			}
		}
		for s := range longer {
			if there[s] {
				delete(longer, s)
			}
		}
		level = longer
	}
	switch {
	case all:
		return api.Always, off
	case none:
		return api.Never, off
	case a.Accept[from]:
		return api.Yes, off
	}
	return api.No, off
}

// after tells the state to which a trace leads.
func (m *model) after(tr []api.Letter) int {
	s := 0
	for _, l := range tr {
		s = next(m.a, s, l)
	}
	return s
}

// all tells what must be told of each beginning.
func (m *model) all(tr []api.Letter) []api.Verdict {
	l := []api.Verdict{m.told[0]}
	for i := range tr {
		l = append(l, m.told[m.after(tr[:i+1])])
	}
	return l
}

// traces tells all traces of at most so many letters, each below few: shorter ones first, else rising.
func traces(long, few int) [][]api.Letter {
	all := [][]api.Letter{nil}
	begin := 0
	for range long {
		end := len(all)
		for _, tr := range all[begin:end] {
			for x := range few {
				all = append(all, append(slices.Clip(tr), api.Letter(x)))
			}
		}
		begin = end
	}
	return all
}

// growTrace tells a trace of n propositions.
func growTrace(chance *rand.Rand, n, long int) []api.Letter {
	tr := make([]api.Letter, long)
	for i := range tr {
		tr[i] = api.Letter(chance.Intn(1 << n))
	}
	return tr
}

// growRow tells where the letters lead: by chance, or as some propositions alone say.
func growRow(chance *rand.Rand, n, states int) []int {
	where := make([]int, 1<<n)
	mask := chance.Intn(1 << n)
	if chance.Intn(3) == 0 {
		mask = 1<<n - 1
	}
	for l := range where {
		if l&mask == l {
			where[l] = chance.Intn(states)
		} else {
			where[l] = where[l&mask]
		}
	}
	return where
}

// growAuto tells an automaton of so many states, of which one in so many accepts.
func growAuto(chance *rand.Rand, n, states, few int) api.Auto {
	accept := make([]bool, states)
	rows := make([][]int, states)
	for s := range rows {
		accept[s] = chance.Intn(few) == 0
		rows[s] = growRow(chance, n, states)
	}
	return built(n, accept, rows)
}

// strayed tells an automaton most of whose letters lead to a state from which none leads on: what is accepted are few traces, or nearly all.
func strayed(chance *rand.Rand, n, states, few int) api.Auto {
	a := growAuto(chance, n, states, few)
	rows := rowsOf(a)
	end := chance.Intn(states)
	for s := range rows {
		for l := range rows[s] {
			if s == end || chance.Intn(4) > 0 {
				rows[s][l] = end
			}
		}
	}
	return built(n, a.Accept, rows)
}

// chain tells an automaton of so many states, each of which one letter leads to the next one, all others to the state back; the last one alone accepts, and stays.
func chain(n, states int, by api.Letter, back int) api.Auto {
	accept := make([]bool, states)
	accept[states-1] = true
	rows := make([][]int, states)
	for s := range rows {
		rows[s] = slices.Repeat([]int{back}, 1<<n)
		rows[s][by] = s + 1
	}
	rows[states-1] = slices.Repeat([]int{states - 1}, 1<<n)
	return built(n, accept, rows)
}

// lengths tells an automaton that accepts just the traces, over n propositions, of those lengths: "010" of one letter.
func lengths(n int, accept string) api.Auto {
	a := api.Auto{Props: n, Accept: append(bools(accept), false)}
	last := len(a.Accept) - 1
	for s := range a.Accept {
		a.Guard = append(a.Guard, -1-min(s+1, last))
	}
	return a
}

// round tells an automaton that goes round in a circle, whatever the letters are.
func round(n int, accept string) api.Auto {
	a := api.Auto{Props: n, Accept: bools(accept)}
	for s := range a.Accept {
		a.Guard = append(a.Guard, -1-(s+1)%len(a.Accept))
	}
	return a
}

// blown tells an automaton with more states that accepts the same traces: each is one of a small automaton's, the state 0 its 0, and leads to some state that is the one to which that leads.
func blown(chance *rand.Rand, small api.Auto, states int) api.Auto {
	of := make([]int, states)
	for s := range of {
		of[s] = chance.Intn(len(small.Accept))
		if s < len(small.Accept) {
			of[s] = s
		}
	}
	chance.Shuffle(states-1, func(i, j int) { of[i+1], of[j+1] = of[j+1], of[i+1] })
	accept := make([]bool, states)
	rows := make([][]int, states)
	for s := range rows {
		accept[s] = small.Accept[of[s]]
		for l := range 1 << small.Props {
			to := next(small, of[s], api.Letter(l))
			at := chance.Intn(states)
			for of[at] != to {
				at = (at + 1) % states
			}
			rows[s] = append(rows[s], at)
		}
	}
	return built(small.Props, accept, rows)
}

// shuffled tells an automaton whose nodes stand in another order, each behind those to which it goes on.
func shuffled(chance *rand.Rand, a api.Auto) api.Auto {
	place := slices.Repeat([]int{-1}, len(a.Nodes))
	there := func(ref int) bool { return ref < 0 || place[ref] >= 0 }
	moved := func(ref int) int {
		if ref < 0 {
			return ref
		}
		return place[ref]
	}
	b := api.Auto{Props: a.Props, Accept: slices.Clone(a.Accept)}
	for len(b.Nodes) < len(a.Nodes) {
		at := chance.Intn(len(a.Nodes))
		for x := a.Nodes[at]; place[at] >= 0 || !there(x.Lo) || !there(x.Hi); x = a.Nodes[at] {
			at = (at + 1) % len(a.Nodes)
		}
		x := a.Nodes[at]
		place[at] = len(b.Nodes)
		b.Nodes = append(b.Nodes, api.Node{P: x.P, Lo: moved(x.Lo), Hi: moved(x.Hi)})
	}
	for _, ref := range a.Guard {
		b.Guard = append(b.Guard, moved(ref))
	}
	return b
}
