package board_test

import (
	"math/rand"
	"slices"
	"strconv"
	"strings"

	"rejoinder/api"
	"rejoinder/guard"
)

// numbers reads numbers, of which one may be said so many times: "0 1 5*4".
func numbers(s string) []int {
	l := []int{}
	for _, word := range strings.Fields(s) {
		w, times, _ := strings.Cut(word, "*")
		n, err := strconv.Atoi(w)
		if err != nil {
			panic("no number: " + word)
		}
		many := 1
		if times != "" {
			many, _ = strconv.Atoi(times)
		}
		l = append(l, slices.Repeat([]int{n}, many)...)
	}
	return l
}

// told tells numbers: "1 6".
func told[T int | api.Letter](l []T) string {
	var words []string
	for _, n := range l {
		words = append(words, strconv.Itoa(int(n)))
	}
	return strings.Join(words, " ")
}

// toldRows tells rows: "1 1; 2 2".
func toldRows(rows [][]int) string {
	var texts []string
	for _, where := range rows {
		texts = append(texts, told(where))
	}
	return strings.Join(texts, "; ")
}

// nodes reads nodes, each P, Lo and Hi: "0 -1 -2; 1 -1 0".
func nodes(s string) []api.Node {
	var l []api.Node
	for _, text := range strings.Split(s, ";") {
		switch x := numbers(text); len(x) {
		case 0:
		case 3:
			l = append(l, api.Node{P: x[0], Lo: x[1], Hi: x[2]})
		default:
			panic("no node: " + text)
		}
	}
	return l
}

// bools reads bools as noughts and ones: "0110".
func bools(s string) []bool {
	l := []bool{}
	for _, b := range s {
		l = append(l, b == '1')
	}
	return l
}

// auto reads an automaton: its propositions, which states accept, their guards, the nodes.
func auto(props int, accept, guards, nodesText string) api.Auto {
	return api.Auto{Props: props, Accept: bools(accept), Guard: numbers(guards), Nodes: nodes(nodesText)}
}

// toldAuto tells an automaton in a text.
func toldAuto(a api.Auto) string {
	accept := ""
	for _, is := range a.Accept {
		accept += map[bool]string{false: "0", true: "1"}[is]
	}
	var texts []string
	for _, x := range a.Nodes {
		texts = append(texts, told([]int{x.P, x.Lo, x.Hi}))
	}
	return strconv.Itoa(a.Props) + ": " + accept + ", " + told(a.Guard) + ", " + strings.Join(texts, "; ")
}

// built tells the automaton whose states lead, by rising letters, where the rows say.
func built(props int, accept []bool, rows [][]int) api.Auto {
	a := api.Auto{Props: props, Accept: accept}
	st, _ := guard.New(props)
	for _, where := range rows {
		ref, err := st.Add(where)
		if err != api.OK {
			panic("no row: " + told(where))
		}
		a.Guard = append(a.Guard, ref)
	}
	a.Nodes = st.Nodes()
	return a
}

// leads reads an automaton by its rows: "0 1; 0 2; 0 1".
func leads(props int, accept, rows string) api.Auto {
	var l [][]int
	for _, text := range strings.Split(rows, ";") {
		l = append(l, numbers(text))
	}
	return built(props, bools(accept), l)
}

// idle tells an automaton of n propositions that goes, whatever the letters are, to the state behind, the last one to itself; it alone accepts.
func idle(n, states int) api.Auto {
	a := api.Auto{Props: n, Accept: make([]bool, states)}
	a.Accept[states-1] = states > 1
	for s := range states {
		a.Guard = append(a.Guard, -1-min(s+1, states-1))
	}
	return a
}

// names tells the first names of 8.
func names(n int) []string { return strings.Fields("a b c d e f g h")[:n] }

// The tests hold what is told against a model that goes proposition by proposition, with weights from a table, and that looks at all letters.

// weight tells of each proposition what it adds to a letter's number.
func weight(p int) int { return []int{1, 2, 4, 8, 16, 32, 64, 128}[p] }

// has tells whether a proposition holds in a letter.
func has(l api.Letter, p int) bool { return int(l)/weight(p)%2 == 1 }

// next tells the state to which a letter leads.
func next(a api.Auto, s int, l api.Letter) int {
	ref := a.Guard[s]
	for ref >= 0 {
		x := a.Nodes[ref]
		ref = x.Lo
		if has(l, x.P) {
			ref = x.Hi
		}
	}
	return -1 - ref
}

// isSplit tells whether each proposition of n is in just one of both, and none of the others in any.
func isSplit(n int, s api.Split) bool {
	for p := range 8 {
		in := 0
		for _, l := range []api.Letter{s.Env, s.Sys} {
			if has(l, p) {
				in++
			}
		}
		if p < n && in != 1 || p >= n && in != 0 {
			return false
		}
	}
	return true
}

// splitsOf tells all splits of n propositions.
func splitsOf(n int) []api.Split {
	var l []api.Split
	for env := range 1 << n {
		s := api.Split{Env: api.Letter(env)}
		for p := range n {
			if !has(s.Env, p) {
				s.Sys += api.Letter(weight(p))
			}
		}
		l = append(l, s)
	}
	return l
}

// choices tells all letters that have propositions of the mask alone, rising.
func choices(mask api.Letter) []api.Letter {
	var l []api.Letter
	for n := range 256 {
		is := true
		for p := range 8 {
			is = is && (has(mask, p) || !has(api.Letter(n), p))
		}
		if is {
			l = append(l, api.Letter(n))
		}
	}
	return l
}

// goes tells where the rounds of a state lead: a round's letter is a sum, for no proposition is in both.
func goes(a api.Auto, s api.Split, q int) [][]int {
	var rows [][]int
	for _, choice := range choices(s.Env) {
		var where []int
		for _, answer := range choices(s.Sys) {
			where = append(where, next(a, q, choice+answer))
		}
		rows = append(rows, where)
	}
	return rows
}

// growRow tells where the letters lead: by chance, or as some propositions alone say.
func growRow(chance *rand.Rand, n, states int) []int {
	where := make([]int, 1<<n)
	mask := chance.Intn(1 << n)
	if chance.Intn(3) == 0 {
		mask = 1<<n - 1
	}
	for l := range where {
		if l&mask == l {
			where[l] = chance.Intn(states)
		} else {
			where[l] = where[l&mask]
		}
	}
	return where
}

// growAuto tells an automaton of so many states, of which the first does not accept, and of the others one in so many does.
func growAuto(chance *rand.Rand, n, states, few int) api.Auto {
	accept := make([]bool, states)
	rows := make([][]int, states)
	for s := range rows {
		accept[s] = s > 0 && chance.Intn(few) == 0
		rows[s] = growRow(chance, n, states)
	}
	return built(n, accept, rows)
}

// growSplit tells a split of n propositions.
func growSplit(chance *rand.Rand, n int) api.Split {
	l := splitsOf(n)
	return l[chance.Intn(len(l))]
}
