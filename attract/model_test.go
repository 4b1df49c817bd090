package attract_test

import (
	"math/rand"
	"slices"
	"strconv"
	"strings"

	"rejoinder/api"
	"rejoinder/guard"
)

// numbers reads numbers, of which one may be said so many times: "0 1 5*4".
func numbers(s string) []int {
	l := []int{}
	for _, word := range strings.Fields(s) {
		w, times, _ := strings.Cut(word, "*")
		n, err := strconv.Atoi(w)
		if err != nil {
			panic("no number: " + word)
		}
		many := 1
		if times != "" {
			many, _ = strconv.Atoi(times)
		}
		l = append(l, slices.Repeat([]int{n}, many)...)
	}
	return l
}

// told tells numbers: "1 -1 0".
func told(l []int) string {
	var words []string
	for _, n := range l {
		words = append(words, strconv.Itoa(n))
	}
	return strings.Join(words, " ")
}

// nodes reads nodes, each P, Lo and Hi: "0 -1 -2; 1 -1 0".
func nodes(s string) []api.Node {
	var l []api.Node
	for _, text := range strings.Split(s, ";") {
		switch x := numbers(text); len(x) {
		case 0:
		case 3:
			l = append(l, api.Node{P: x[0], Lo: x[1], Hi: x[2]})
		default:
			panic("no node: " + text)
		}
	}
	return l
}

// bools reads bools as noughts and ones: "0110".
func bools(s string) []bool {
	l := []bool{}
	for _, b := range s {
		l = append(l, b == '1')
	}
	return l
}

// toldBools tells bools as noughts and ones.
func toldBools(l []bool) string {
	s := ""
	for _, is := range l {
		s += map[bool]string{false: "0", true: "1"}[is]
	}
	return s
}

// auto reads an automaton: its propositions, which states accept, their guards, the nodes.
func auto(props int, accept, guards, nodesText string) api.Auto {
	return api.Auto{Props: props, Accept: bools(accept), Guard: numbers(guards), Nodes: nodes(nodesText)}
}

// toldAuto tells an automaton in a text.
func toldAuto(a api.Auto) string {
	var texts []string
	for _, x := range a.Nodes {
		texts = append(texts, told([]int{x.P, x.Lo, x.Hi}))
	}
	return strconv.Itoa(a.Props) + ": " + toldBools(a.Accept) + ", " + told(a.Guard) + ", " + strings.Join(texts, "; ")
}

// built tells the automaton whose states lead, by rising letters, where the rows say.
func built(props int, accept []bool, rows [][]int) api.Auto {
	a := api.Auto{Props: props, Accept: accept}
	st, _ := guard.New(props)
	for _, where := range rows {
		ref, err := st.Add(where)
		if err != api.OK {
			panic("no row: " + told(where))
		}
		a.Guard = append(a.Guard, ref)
	}
	a.Nodes = st.Nodes()
	return a
}

// leads reads an automaton by its rows: "0 1; 0 2; 0 1".
func leads(props int, accept, rows string) api.Auto {
	var l [][]int
	for _, text := range strings.Split(rows, ";") {
		l = append(l, numbers(text))
	}
	return built(props, bools(accept), l)
}

// idle tells an automaton of n propositions that goes, whatever the letters are, to the state behind, the last one to itself; it alone accepts.
func idle(n, states int) api.Auto {
	a := api.Auto{Props: n, Accept: make([]bool, states)}
	a.Accept[states-1] = states > 1
	for s := range states {
		a.Guard = append(a.Guard, -1-min(s+1, states-1))
	}
	return a
}

// The tests hold what is told against a model that goes proposition by proposition, with weights from a table, that looks at all letters, and that tells ranks by numbers: each is one more than the worst choice's best answer.

// weight tells of each proposition what it adds to a letter's number.
func weight(p int) int { return []int{1, 2, 4, 8, 16, 32, 64, 128}[p] }

// has tells whether a proposition holds in a letter.
func has(l, p int) bool { return l/weight(p)%2 == 1 }

// next tells the state to which a letter leads.
func next(a api.Auto, q, l int) int {
	ref := a.Guard[q]
	for ref >= 0 {
		x := a.Nodes[ref]
		ref = x.Lo
		if has(l, x.P) {
			ref = x.Hi
		}
	}
	return -1 - ref
}

// isSplit tells whether each proposition of n is in just one of both, and none of the others in any.
func isSplit(n int, s api.Split) bool {
	for p := range 8 {
		in := 0
		for _, l := range []api.Letter{s.Env, s.Sys} {
			if has(int(l), p) {
				in++
			}
		}
		if p < n && in != 1 || p >= n && in != 0 {
			return false
		}
	}
	return true
}

// splitsOf tells all splits of n propositions.
func splitsOf(n int) []api.Split {
	var l []api.Split
	for env := range 1 << n {
		s := api.Split{Env: api.Letter(env)}
		for p := range n {
			if !has(env, p) {
				s.Sys += api.Letter(weight(p))
			}
		}
		l = append(l, s)
	}
	return l
}

// choiceIn tells of a letter what the environment chose in it.
func choiceIn(s api.Split, l int) int {
	choice := 0
	for p := range 8 {
		if has(int(s.Env), p) && has(l, p) {
			choice += weight(p)
		}
	}
	return choice
}

// answers tells of each choice of the environment to which states the system's answers lead.
func answers(a api.Auto, s api.Split, q int) map[int][]int {
	by := map[int][]int{}
	for l := range 1 << a.Props {
		choice := choiceIn(s, l)
		by[choice] = append(by[choice], next(a, q, l))
	}
	return by
}

// rounds tells of each state its answers.
func rounds(a api.Auto, s api.Split) []map[int][]int {
	var l []map[int][]int
	for q := range a.Accept {
		l = append(l, answers(a, s, q))
	}
	return l
}

// never is more than any rank.
const never = 1 << 20

// worst tells of numbers of the states how many a state has by the worst choice's best answer.
func worst(by map[int][]int, many []int) int {
	most := 0
	for _, where := range by {
		least := never
		for _, q := range where {
			least = min(least, many[q])
		}
		most = max(most, least)
	}
	return most
}

// ranksOf tells the ranks: numbers fall from never on, state by state, from the last to the first and again, till none does.
func ranksOf(a api.Auto, s api.Split) []int {
	l := rounds(a, s)
	many := slices.Repeat([]int{never}, len(l))
	for q, is := range a.Accept {
		if is {
			many[q] = 0
		}
	}
	for falls := true; falls; {
		falls = false
		for q := len(l) - 1; q >= 0; q-- {
			if n := worst(l[q], many) + 1; n < many[q] {
				many[q], falls = n, true
			}
		}
	}
	for q, n := range many {
		if n == never {
			many[q] = -1
		}
	}
	return many
}

// stepOf tells which states are one round before those that are won.
func stepOf(a api.Auto, s api.Split, won []bool) []bool {
	many := make([]int, len(won))
	for q, is := range won {
		if !is {
			many[q] = never
		}
	}
	l := make([]bool, len(won))
	for q, by := range rounds(a, s) {
		l[q] = worst(by, many) == 0
	}
	return l
}

// listsOf tells all lists of so many bools.
func listsOf(many int) [][]bool {
	var lists [][]bool
	for set := range 1 << many {
		l := make([]bool, many)
		for i := range l {
			l[i] = set>>i%2 == 1
		}
		lists = append(lists, l)
	}
	return lists
}

// growBools tells a list of so many bools by chance, of which one in so many is true.
func growBools(chance *rand.Rand, many, few int) []bool {
	l := make([]bool, many)
	for i := range l {
		l[i] = chance.Intn(few) == 0
	}
	return l
}

// growRow tells where the letters lead: by chance, or as some propositions alone say.
func growRow(chance *rand.Rand, n, states int) []int {
	where := make([]int, 1<<n)
	mask := chance.Intn(1 << n)
	if chance.Intn(3) == 0 {
		mask = 1<<n - 1
	}
	for l := range where {
		if l&mask == l {
			where[l] = chance.Intn(states)
		} else {
			where[l] = where[l&mask]
		}
	}
	return where
}

// growAuto tells an automaton of so many states, of which the first does not accept, and of the others one in so many does.
func growAuto(chance *rand.Rand, n, states, few int) api.Auto {
	accept := make([]bool, states)
	rows := make([][]int, states)
	for q := range rows {
		accept[q] = q > 0 && chance.Intn(few) == 0
		rows[q] = growRow(chance, n, states)
	}
	return built(n, accept, rows)
}

// growLong tells an automaton whose letters mostly lead to states near by, and of which the last state alone accepts: its ranks are high.
func growLong(chance *rand.Rand, n, states int) api.Auto {
	accept := make([]bool, states)
	accept[states-1] = states > 1
	rows := make([][]int, states)
	for q := range rows {
		rows[q] = growRow(chance, n, 4)
		for l, far := range rows[q] {
			rows[q][l] = max(0, min(states-1, q+far-1))
		}
	}
	return built(n, accept, rows)
}

// growSplit tells a split of n propositions.
func growSplit(chance *rand.Rand, n int) api.Split {
	l := splitsOf(n)
	return l[chance.Intn(len(l))]
}
