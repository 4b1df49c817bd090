package guard_test

import (
	"math/rand"
	"slices"
	"strconv"
	"strings"

	"rejoinder/api"
)

// numbers reads numbers, of which one may be said so many times: "0 1 5*4".
func numbers(s string) []int {
	l := []int{}
	for _, word := range strings.Fields(s) {
		w, times, _ := strings.Cut(word, "*")
		n, err := strconv.Atoi(w)
		if err != nil {
			panic("no number: " + word)
		}
		many := 1
		if times != "" {
			many, _ = strconv.Atoi(times)
		}
		l = append(l, slices.Repeat([]int{n}, many)...)
	}
	return l
}

// told tells numbers: "1 6".
func told(l []int) string {
	var words []string
	for _, n := range l {
		words = append(words, strconv.Itoa(n))
	}
	return strings.Join(words, " ")
}

// nodes reads nodes, each P, Lo and Hi: "0 -1 -2; 1 -1 0".
func nodes(s string) []api.Node {
	var l []api.Node
	for _, text := range strings.Split(s, ";") {
		switch x := numbers(text); len(x) {
		case 0:
		case 3:
			l = append(l, api.Node{P: x[0], Lo: x[1], Hi: x[2]})
		default:
			panic("no node: " + text)
		}
	}
	return l
}

// toldNodes tells nodes as nodes reads them.
func toldNodes(l []api.Node) string {
	var texts []string
	for _, x := range l {
		texts = append(texts, told([]int{x.P, x.Lo, x.Hi}))
	}
	return strings.Join(texts, "; ")
}

// bools reads bools as noughts and ones: "0110".
func bools(s string) []bool {
	l := []bool{}
	for _, b := range s {
		l = append(l, b == '1')
	}
	return l
}

// auto reads an automaton: its propositions, which states accept, their guards, the nodes.
func auto(props int, accept, guards, nodesText string) api.Auto {
	return api.Auto{Props: props, Accept: bools(accept), Guard: numbers(guards), Nodes: nodes(nodesText)}
}

// toldAuto tells an automaton in a text.
func toldAuto(a api.Auto) string {
	accept := ""
	for _, is := range a.Accept {
		accept += map[bool]string{false: "0", true: "1"}[is]
	}
	return strconv.Itoa(a.Props) + ": " + accept + ", " + told(a.Guard) + ", " + toldNodes(a.Nodes)
}

// The tests hold a store against a model that looks at whole lists: a node is found by the states of all letters, and made for the first proposition on which they hang. The program halves the lists, and finds nodes by what they lead to.

// model is what a store must be.
type model struct {
	n      int
	nodes  []api.Node
	tables [][]int // the states to which each node leads, of all letters
	refs   map[string]int
}

// newModel tells a model without nodes.
func newModel(n int) *model { return &model{n: n, refs: map[string]int{}} }

// cut takes out all nodes but the first ones.
func (m *model) cut(many int) {
	for _, where := range m.tables[many:] {
		delete(m.refs, told(where))
	}
	m.nodes, m.tables = m.nodes[:many], m.tables[:many]
}

// as tells the states of letters that are told by where as if they had the proposition p, or had it not.
func as(where []int, p int, has bool) []int {
	l := make([]int, len(where))
	for a := range where {
		if has {
			l[a] = where[a|1<<p]
		} else {
			l[a] = where[a&^(1<<p)]
		}
	}
	return l
}

// hangs tells the first proposition on which states hang, n if none.
func (m *model) hangs(where []int) int {
	for p := range m.n {
		if !slices.Equal(as(where, p, false), as(where, p, true)) {
			return p
		}
	}
	return m.n
}

// add tells the reference of a list of states, and makes what it needs.
func (m *model) add(where []int) int {
	p := m.hangs(where)
	if p == m.n {
		return -1 - where[0]
	}
	lo := m.add(as(where, p, false))
	hi := m.add(as(where, p, true))
	text := told(where)
	if ref, there := m.refs[text]; there {
		return ref
	}
	m.nodes = append(m.nodes, api.Node{P: p, Lo: lo, Hi: hi})
	m.tables = append(m.tables, slices.Clone(where))
	m.refs[text] = len(m.nodes) - 1
	return len(m.nodes) - 1
}

// from tells the state that is reached from a reference behind so many nodes, and whether one is.
func from(l []api.Node, ref int, a api.Letter, behind int) (int, bool) {
	if behind > 8 {
		return 0, false
	}
	if ref < 0 {
		return -1 - ref, true
	}
	if ref >= len(l) || l[ref].P < 0 || l[ref].P > 7 {
		return 0, false
	}
	has := slices.Contains(props(a), l[ref].P)
	if has {
		return from(l, l[ref].Hi, a, behind+1)
	}
	return from(l, l[ref].Lo, a, behind+1)
}

// props tells which propositions a letter has.
func props(a api.Letter) []int {
	var l []int
	for p, weight := range []int{1, 2, 4, 8, 16, 32, 64, 128} {
		if int(a)/weight%2 == 1 {
			l = append(l, p)
		}
	}
	return l
}

// tableOf tells what Table must: the states, or the error.
func tableOf(n int, l []api.Node, ref int) ([]int, api.Errno) {
	if n < 0 || n > 8 {
		return nil, api.ErrArg
	}
	var where []int
	for a := range 1 << n {
		state, reached := from(l, ref, api.Letter(a), 0)
		if !reached {
			return nil, api.ErrAuto
		}
		where = append(where, state)
	}
	return where, api.OK
}

// faults tells by which of the chapter's words an automaton may not be.
func faults(a api.Auto) []string {
	var l []string
	say := func(is bool, fault string) {
		if is && !slices.Contains(l, fault) {
			l = append(l, fault)
		}
	}
	isState := func(ref int) bool { return ref < 0 && ref >= -len(a.Accept) }
	isNode := func(ref int) bool { return ref >= 0 && ref < len(a.Nodes) }
	say(a.Props < 0 || a.Props > 8, "props")
	say(len(a.Accept) < 1 || len(a.Accept) > 256, "states")
	say(len(a.Guard) != len(a.Accept), "guards")
	say(len(a.Nodes) > 4096, "nodes")
	for i, x := range a.Nodes {
		say(x.P < 0 || x.P >= a.Props, "p")
		say(x.Lo == x.Hi, "alike")
		for _, ref := range []int{x.Lo, x.Hi} {
			say(ref < 0 && !isState(ref), "no state")
			say(ref >= i, "no lesser place")
			say(isNode(ref) && a.Nodes[ref].P <= x.P, "no greater p")
		}
		say(slices.Contains(a.Nodes[:i], x), "the same")
	}
	for _, ref := range a.Guard {
		say(!isState(ref) && !isNode(ref), "guard")
	}
	return l
}

// grow tells a list of states for each letter of n propositions: by chance, or such as hang on some propositions alone.
func grow(chance *rand.Rand, n, states int) []int {
	where := make([]int, 1<<n)
	mask := chance.Intn(1 << n)
	if chance.Intn(3) == 0 {
		mask = 1<<n - 1
	}
	by := map[int]int{}
	for a := range where {
		if _, there := by[a&mask]; !there {
			by[a&mask] = chance.Intn(states)
		}
		where[a] = by[a&mask]
	}
	return where
}

// growAuto tells an automaton that may be.
func growAuto(chance *rand.Rand) api.Auto {
	n, states := chance.Intn(9), 1+chance.Intn(6)
	if n > 5 {
		states = 1 + chance.Intn(2)
	}
	m := newModel(n)
	a := api.Auto{Props: n}
	for range states {
		a.Accept = append(a.Accept, chance.Intn(2) == 0)
		a.Guard = append(a.Guard, m.add(grow(chance, n, states)))
	}
	a.Nodes = m.nodes
	return a
}
