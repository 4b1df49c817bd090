package lang_test

import (
	"math/big"
	"math/rand"
	"slices"
	"strconv"
	"strings"

	"rejoinder/api"
)

// numbers reads numbers, of which one may be said so many times: "0 1 5*4".
func numbers(s string) []int {
	l := []int{}
	for _, word := range strings.Fields(s) {
		w, times, _ := strings.Cut(word, "*")
		n, err := strconv.Atoi(w)
		if err != nil {
			panic("no number: " + word)
		}
		many := 1
		if times != "" {
			many, _ = strconv.Atoi(times)
		}
		l = append(l, slices.Repeat([]int{n}, many)...)
	}
	return l
}

// told tells numbers: "1 6".
func told[T int | api.Letter](l []T) string {
	var words []string
	for _, n := range l {
		words = append(words, strconv.Itoa(int(n)))
	}
	return strings.Join(words, " ")
}

// letters reads a trace: "0 1 5*4".
func letters(s string) []api.Letter {
	var tr []api.Letter
	for _, n := range numbers(s) {
		tr = append(tr, api.Letter(n))
	}
	return tr
}

// toldAll tells traces: "(1)(0 1)(1 1)". The empty trace alone, "()", is not as none.
func toldAll(l [][]api.Letter) string {
	text := ""
	for _, tr := range l {
		text += "(" + told(tr) + ")"
	}
	return text
}

// nodes reads nodes, each P, Lo and Hi: "0 -1 -2; 1 -1 0".
func nodes(s string) []api.Node {
	var l []api.Node
	for _, text := range strings.Split(s, ";") {
		switch x := numbers(text); len(x) {
		case 0:
		case 3:
			l = append(l, api.Node{P: x[0], Lo: x[1], Hi: x[2]})
		default:
			panic("no node: " + text)
		}
	}
	return l
}

// bools reads bools as noughts and ones: "0110".
func bools(s string) []bool {
	l := []bool{}
	for _, b := range s {
		l = append(l, b == '1')
	}
	return l
}

// toldBools tells bools as noughts and ones.
func toldBools(l []bool) string {
	s := ""
	for _, is := range l {
		s += map[bool]string{false: "0", true: "1"}[is]
	}
	return s
}

// auto reads an automaton: its propositions, which states accept, their guards, the nodes.
func auto(props int, accept, guards, nodesText string) api.Auto {
	return api.Auto{Props: props, Accept: bools(accept), Guard: numbers(guards), Nodes: nodes(nodesText)}
}

// toldAuto tells an automaton in a text.
func toldAuto(a api.Auto) string {
	var texts []string
	for _, x := range a.Nodes {
		texts = append(texts, told([]int{x.P, x.Lo, x.Hi}))
	}
	return strconv.Itoa(a.Props) + ": " + toldBools(a.Accept) + ", " + told(a.Guard) + ", " + strings.Join(texts, "; ")
}

// decided makes nodes for the tests by the words of chapter 14, from tables alone: a list of states hangs on propositions or it does not.
type decided struct {
	props int
	nodes []api.Node
	refs  map[string]int
}

// as tells where letters lead if a proposition holds in all of them, or in none.
func as(where []int, p int, has bool) []int {
	l := make([]int, len(where))
	for a := range where {
		if has {
			l[a] = where[a|1<<p]
		} else {
			l[a] = where[a&^(1<<p)]
		}
	}
	return l
}

// hangs tells the first proposition on which states hang; as many as there are, if they hang on none.
func (d *decided) hangs(where []int) int {
	for p := range d.props {
		if !slices.Equal(as(where, p, false), as(where, p, true)) {
			return p
		}
	}
	return d.props
}

// add tells the reference of a list of states, and makes what it needs.
func (d *decided) add(where []int) int {
	p := d.hangs(where)
	if p == d.props {
		return -1 - where[0]
	}
	lo := d.add(as(where, p, false))
	hi := d.add(as(where, p, true))
	text := told(where)
	if _, there := d.refs[text]; !there {
		d.refs[text] = len(d.nodes)
		d.nodes = append(d.nodes, api.Node{P: p, Lo: lo, Hi: hi})
	}
	return d.refs[text]
}

// built tells the automaton whose states lead, by rising letters, where the rows say.
func built(props int, accept []bool, rows [][]int) api.Auto {
	d := &decided{props: props, refs: map[string]int{}}
	a := api.Auto{Props: props, Accept: accept}
	for _, where := range rows {
		if len(where) != 1<<props {
			panic("no row: " + told(where))
		}
		a.Guard = append(a.Guard, d.add(where))
	}
	a.Nodes = d.nodes
	return a
}

// leads reads an automaton by its rows: "0 1; 0 2; 0 1".
func leads(props int, accept, rows string) api.Auto {
	var l [][]int
	for _, text := range strings.Split(rows, ";") {
		l = append(l, numbers(text))
	}
	return built(props, bools(accept), l)
}

// next tells the state to which a letter leads.
func next(a api.Auto, s int, l api.Letter) int {
	ref := a.Guard[s]
	for ref >= 0 {
		x := a.Nodes[ref]
		ref = x.Lo
		if int(l)/[]int{1, 2, 4, 8, 16, 32, 64, 128}[x.P]%2 == 1 {
			ref = x.Hi
		}
	}
	return -1 - ref
}

// accepts tells whether a trace is accepted.
func accepts(a api.Auto, tr []api.Letter) bool {
	s := 0
	for _, l := range tr {
		s = next(a, s, l)
	}
	return a.Accept[s]
}

// rowsOf tells of each state where it leads, by rising letters.
func rowsOf(a api.Auto) [][]int {
	rows := make([][]int, len(a.Accept))
	for s := range rows {
		for l := range 1 << a.Props {
			rows[s] = append(rows[s], next(a, s, api.Letter(l)))
		}
	}
	return rows
}

// The tests hold what is told against a model that goes on length by length, from the state 0 on: it keeps of each length apart the first trace that leads to each state, and how many lead there.

// level is what there is of one length: of each state the first trace that leads there, if one does, a byte a letter, and how many do.
type level struct {
	is    []bool
	first []string
	many  []*big.Int
}

// model is what must be told of an automaton.
type model struct {
	a  api.Auto
	to [][]int
}

func newModel(a api.Auto) *model { return &model{a: a, to: rowsOf(a)} }

// bare tells the level to which nothing leads.
func (m *model) bare() level {
	n := len(m.to)
	x := level{make([]bool, n), make([]string, n), make([]*big.Int, n)}
	for s := range x.many {
		x.many[s] = new(big.Int)
	}
	return x
}

// begin tells the level of no letter.
func (m *model) begin() level {
	x := m.bare()
	x.is[0] = true
	x.many[0].SetInt64(1)
	return x
}

// after tells the level of one letter more; how many traces there are just if that is asked for.
func (m *model) after(x level, howMany bool) level {
	y := m.bare()
	from := make([]int, len(m.to)) // of each state that which the first trace goes through ahead of it, and the letter
	by := make([]api.Letter, len(m.to))
	for s, where := range m.to {
		if !x.is[s] {
			continue
		}
		for l, to := range where {
			// To two states there never leads one trace: letters count for one of them alone, and they rise.
			if !y.is[to] || x.first[s] < x.first[from[to]] {
				y.is[to], from[to], by[to] = true, s, api.Letter(l)
			}
			if howMany {
				y.many[to].Add(y.many[to], x.many[s])
			}
		}
	}
	for s, is := range y.is {
		if is {
			y.first[s] = x.first[from[s]] + string([]byte{byte(by[s])})
		}
	}
	return y
}

// firstOf tells the first trace of a level that is accepted, or that is not; and whether there is one.
func (m *model) firstOf(x level, accepted bool) ([]api.Letter, bool) {
	best := -1
	for s, is := range x.is {
		if is && m.a.Accept[s] == accepted && (best < 0 || x.first[s] < x.first[best]) {
			best = s
		}
	}
	if best < 0 {
		return nil, false
	}
	var tr []api.Letter
	for _, l := range []byte(x.first[best]) {
		tr = append(tr, api.Letter(l))
	}
	return tr, true
}

// search tells the first trace of at least so many letters that is accepted, or that is not. To each state that is reached, the state 0 with a letter at least too, no more letters lead than there are states.
func (m *model) search(least int, accepted bool) ([]api.Letter, bool) {
	x := m.begin()
	for length := 0; length <= len(m.to); length++ {
		if tr, is := m.firstOf(x, accepted); is && length >= least {
			return tr, true
		}
		x = m.after(x, false)
	}
	return nil, false
}

// counts tells how many traces of each length, up to one, are accepted.
func (m *model) counts(long int) []*big.Int {
	var l []*big.Int
	x := m.begin()
	for range long + 1 {
		sum := new(big.Int)
		for s, is := range m.a.Accept {
			if is {
				sum.Add(sum, x.many[s])
			}
		}
		l = append(l, sum)
		x = m.after(x, true)
	}
	return l
}

// reach tells the least length of which there is a trace that leads to each state.
func (m *model) reach() []int {
	l := slices.Repeat([]int{-1}, len(m.to))
	x := m.begin()
	for length := range m.to {
		for s, is := range x.is {
			if is && l[s] < 0 {
				l[s] = length
			}
		}
		x = m.after(x, false)
	}
	return l
}

// live tells from which states an accepting one is reached: as often as there are states a state is so, if a letter leads to one that is.
func (m *model) live() []bool {
	l := slices.Clone(m.a.Accept)
	for range m.to {
		for s, where := range m.to {
			for _, to := range where {
				l[s] = l[s] || l[to]
			}
		}
	}
	return l
}

// words tells the traces of at most so many letters that are accepted: all traces are looked at.
func (m *model) words(most int) [][]api.Letter {
	var l [][]api.Letter
	for _, tr := range traces(most, 1<<m.a.Props) {
		if accepts(m.a, tr) {
			l = append(l, tr)
		}
	}
	return l
}

// traces tells all traces of at most so many letters, each below few: shorter ones first, else rising.
func traces(long, few int) [][]api.Letter {
	all := [][]api.Letter{nil}
	begin := 0
	for range long {
		end := len(all)
		for _, tr := range all[begin:end] {
			for x := range few {
				all = append(all, append(slices.Clip(tr), api.Letter(x)))
			}
		}
		begin = end
	}
	return all
}

// growTrace tells a trace of n propositions.
func growTrace(chance *rand.Rand, n, long int) []api.Letter {
	tr := make([]api.Letter, long)
	for i := range tr {
		tr[i] = api.Letter(chance.Intn(1 << n))
	}
	return tr
}

// growRow tells where the letters lead: by chance, or as some propositions alone say.
func growRow(chance *rand.Rand, n, states int) []int {
	where := make([]int, 1<<n)
	mask := chance.Intn(1 << n)
	if chance.Intn(3) == 0 {
		mask = 1<<n - 1
	}
	for l := range where {
		if l&mask == l {
			where[l] = chance.Intn(states)
		} else {
			where[l] = where[l&mask]
		}
	}
	return where
}

// growAuto tells an automaton of so many states, of which one in so many accepts.
func growAuto(chance *rand.Rand, n, states, few int) api.Auto {
	accept := make([]bool, states)
	rows := make([][]int, states)
	for s := range rows {
		accept[s] = chance.Intn(few) == 0
		rows[s] = growRow(chance, n, states)
	}
	return built(n, accept, rows)
}

// strayed tells an automaton most of whose letters lead to a state from which none leads on: what is accepted are few traces, or nearly all.
func strayed(chance *rand.Rand, n, states, few int) api.Auto {
	a := growAuto(chance, n, states, few)
	rows := rowsOf(a)
	end := chance.Intn(states)
	for s := range rows {
		for l := range rows[s] {
			if s == end || chance.Intn(4) > 0 {
				rows[s][l] = end
			}
		}
	}
	return built(n, a.Accept, rows)
}

// chain tells an automaton of so many states, each of which one letter leads to the next one, all others to the state back; the last one alone accepts, and stays.
func chain(n, states int, by api.Letter, back int) api.Auto {
	accept := make([]bool, states)
	accept[states-1] = true
	rows := make([][]int, states)
	for s := range rows {
		rows[s] = slices.Repeat([]int{back}, 1<<n)
		rows[s][by] = s + 1
	}
	rows[states-1] = slices.Repeat([]int{states - 1}, 1<<n)
	return built(n, accept, rows)
}

// lengths tells an automaton that accepts just the traces, over n propositions, of those lengths: "010" of one letter.
func lengths(n int, accept string) api.Auto {
	a := api.Auto{Props: n, Accept: append(bools(accept), false)}
	last := len(a.Accept) - 1
	for s := range a.Accept {
		a.Guard = append(a.Guard, -1-min(s+1, last))
	}
	return a
}

// round tells an automaton that goes round in a circle, whatever the letters are.
func round(n int, accept string) api.Auto {
	a := api.Auto{Props: n, Accept: bools(accept)}
	for s := range a.Accept {
		a.Guard = append(a.Guard, -1-(s+1)%len(a.Accept))
	}
	return a
}

// not tells an automaton that accepts just the traces that are not empty and that another one does not accept: a state more stands ahead of all others, which goes where the state 0 did.
func not(a api.Auto) api.Auto {
	accept := []bool{false}
	for _, is := range a.Accept {
		accept = append(accept, !is)
	}
	rows := [][]int{nil}
	for _, where := range rowsOf(a) {
		var l []int
		for _, to := range where {
			l = append(l, to+1)
		}
		rows = append(rows, l)
	}
	rows[0] = rows[1]
	return built(a.Props, accept, rows)
}

// begun tells an automaton that begins in another state: it and the state 0 change places.
func begun(a api.Auto, at int) api.Auto {
	name := func(s int) int {
		switch s {
		case 0:
			return at
		case at:
			return 0
		}
		return s
	}
	accept := make([]bool, len(a.Accept))
	rows := make([][]int, len(a.Accept))
	for s, where := range rowsOf(a) {
		accept[name(s)] = a.Accept[s]
		for _, to := range where {
			rows[name(s)] = append(rows[name(s)], name(to))
		}
	}
	return built(a.Props, accept, rows)
}

// shuffled tells an automaton whose nodes stand in another order, each behind those to which it goes on.
func shuffled(chance *rand.Rand, a api.Auto) api.Auto {
	place := slices.Repeat([]int{-1}, len(a.Nodes))
	there := func(ref int) bool { return ref < 0 || place[ref] >= 0 }
	moved := func(ref int) int {
		if ref < 0 {
			return ref
		}
		return place[ref]
	}
	b := api.Auto{Props: a.Props, Accept: slices.Clone(a.Accept)}
	for len(b.Nodes) < len(a.Nodes) {
		at := chance.Intn(len(a.Nodes))
		for x := a.Nodes[at]; place[at] >= 0 || !there(x.Lo) || !there(x.Hi); x = a.Nodes[at] {
			at = (at + 1) % len(a.Nodes)
		}
		x := a.Nodes[at]
		place[at] = len(b.Nodes)
		b.Nodes = append(b.Nodes, api.Node{P: x.P, Lo: moved(x.Lo), Hi: moved(x.Hi)})
	}
	for _, ref := range a.Guard {
		b.Guard = append(b.Guard, moved(ref))
	}
	return b
}
