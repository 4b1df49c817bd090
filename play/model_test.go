package play_test

import (
	"math/rand"
	"slices"
	"strconv"
	"strings"

	"rejoinder/api"
	"rejoinder/guard"
)

// numbers reads numbers, of which one may be said so many times: "0 1 5*4".
func numbers(s string) []int {
	l := []int{}
	for _, word := range strings.Fields(s) {
		w, times, _ := strings.Cut(word, "*")
		n, err := strconv.Atoi(w)
		if err != nil {
			panic("no number: " + word)
		}
		many := 1
		if times != "" {
			many, _ = strconv.Atoi(times)
		}
		l = append(l, slices.Repeat([]int{n}, many)...)
	}
	return l
}

// letters reads letters: "0 1 3".
func letters(s string) []api.Letter {
	l := []api.Letter{}
	for _, n := range numbers(s) {
		l = append(l, api.Letter(n))
	}
	return l
}

// told tells numbers: "1 -1 0".
func told[T int | api.Letter](l []T) string {
	var words []string
	for _, n := range l {
		words = append(words, strconv.Itoa(int(n)))
	}
	return strings.Join(words, " ")
}

// nodes reads nodes, each P, Lo and Hi: "0 -1 -2; 1 -1 0".
func nodes(s string) []api.Node {
	var l []api.Node
	for _, text := range strings.Split(s, ";") {
		switch x := numbers(text); len(x) {
		case 0:
		case 3:
			l = append(l, api.Node{P: x[0], Lo: x[1], Hi: x[2]})
		default:
			panic("no node: " + text)
		}
	}
	return l
}

// bools reads bools as noughts and ones: "0110".
func bools(s string) []bool {
	l := []bool{}
	for _, b := range s {
		l = append(l, b == '1')
	}
	return l
}

// auto reads an automaton: its propositions, which states accept, their guards, the nodes.
func auto(props int, accept, guards, nodesText string) api.Auto {
	return api.Auto{Props: props, Accept: bools(accept), Guard: numbers(guards), Nodes: nodes(nodesText)}
}

// toldAuto tells an automaton in a text.
func toldAuto(a api.Auto) string {
	accept := ""
	for _, is := range a.Accept {
		accept += map[bool]string{false: "0", true: "1"}[is]
	}
	var texts []string
	for _, x := range a.Nodes {
		texts = append(texts, told([]int{x.P, x.Lo, x.Hi}))
	}
	return strconv.Itoa(a.Props) + ": " + accept + ", " + told(a.Guard) + ", " + strings.Join(texts, "; ")
}

// strategy reads a strategy: whose it is, sys or env, its ranks, its replies, "2 2; ; ", its choices. Of no text there are no replies.
func strategy(side, ranks, replies, choices string) api.Strategy {
	x := api.Strategy{Wins: side == "sys", Ranks: numbers(ranks), Choice: letters(choices)}
	if replies != "" {
		for _, text := range strings.Split(replies, ";") {
			x.Reply = append(x.Reply, letters(text))
		}
	}
	return x
}

// toldStrategy tells a strategy in a text.
func toldStrategy(x api.Strategy) string {
	var texts []string
	for _, l := range x.Reply {
		texts = append(texts, "("+told(l)+")")
	}
	return strconv.FormatBool(x.Wins) + ": " + told(x.Ranks) + ", " + strings.Join(texts, " ") + ", " + told(x.Choice)
}

// copied tells a strategy of its own memory.
func copied(x api.Strategy) api.Strategy {
	y := api.Strategy{Wins: x.Wins, Ranks: slices.Clone(x.Ranks), Choice: slices.Clone(x.Choice)}
	for _, l := range x.Reply {
		y.Reply = append(y.Reply, slices.Clone(l))
	}
	return y
}

// copiedAuto tells an automaton of its own memory.
func copiedAuto(a api.Auto) api.Auto {
	return api.Auto{Props: a.Props, Accept: slices.Clone(a.Accept), Guard: slices.Clone(a.Guard), Nodes: slices.Clone(a.Nodes)}
}

// built tells the automaton whose states lead, by rising letters, where the rows say.
func built(props int, accept []bool, rows [][]int) api.Auto {
	a := api.Auto{Props: props, Accept: accept}
	st, _ := guard.New(props)
	for _, where := range rows {
		ref, err := st.Add(where)
		if err != api.OK {
			panic("no row: " + told(where))
		}
		a.Guard = append(a.Guard, ref)
	}
	a.Nodes = st.Nodes()
	return a
}

// leads reads an automaton by its rows: "0 1; 0 2; 0 1".
func leads(props int, accept, rows string) api.Auto {
	var l [][]int
	for _, text := range strings.Split(rows, ";") {
		l = append(l, numbers(text))
	}
	return built(props, bools(accept), l)
}

// idle tells an automaton of n propositions that goes, whatever the letters are, to the state behind, the last one to itself; it alone accepts.
func idle(n, states int) api.Auto {
	a := api.Auto{Props: n, Accept: make([]bool, states)}
	a.Accept[states-1] = states > 1
	for s := range states {
		a.Guard = append(a.Guard, -1-min(s+1, states-1))
	}
	return a
}

// The tests hold what is told against a model that goes proposition by proposition, with weights from a table, that tells by name each condition that a strategy breaks, and that keeps of a play its letters alone.

// weight tells of each proposition what it adds to a letter's number.
func weight(p int) int { return []int{1, 2, 4, 8, 16, 32, 64, 128}[p] }

// has tells whether a proposition holds in a letter.
func has(l api.Letter, p int) bool { return int(l)/weight(p)%2 == 1 }

// next tells the state to which a letter leads.
func next(a api.Auto, q int, l api.Letter) int {
	ref := a.Guard[q]
	for ref >= 0 {
		x := a.Nodes[ref]
		ref = x.Lo
		if has(l, x.P) {
			ref = x.Hi
		}
	}
	return -1 - ref
}

// isSplit tells whether each proposition of n is in just one of both, and none of the others in any.
func isSplit(n int, s api.Split) bool {
	for p := range 8 {
		in := 0
		for _, l := range []api.Letter{s.Env, s.Sys} {
			if has(l, p) {
				in++
			}
		}
		if p < n && in != 1 || p >= n && in != 0 {
			return false
		}
	}
	return true
}

// splitsOf tells all splits of n propositions.
func splitsOf(n int) []api.Split {
	var l []api.Split
	for env := range 1 << n {
		s := api.Split{Env: api.Letter(env)}
		for p := range n {
			if !has(s.Env, p) {
				s.Sys += api.Letter(weight(p))
			}
		}
		l = append(l, s)
	}
	return l
}

// choices tells all letters that have propositions of the mask alone, rising: with each proposition there are as many again, each with its weight more.
func choices(mask api.Letter) []api.Letter {
	l := []api.Letter{0}
	for p := range 8 {
		if !has(mask, p) {
			continue
		}
		for _, less := range slices.Clone(l) {
			l = append(l, less+api.Letter(weight(p)))
		}
	}
	return l
}

// goes tells where the rounds of a state lead: a row for each choice of the environment. A round's letter is a sum, for no proposition is in both.
func goes(a api.Auto, s api.Split, q int) [][]int {
	var rows [][]int
	answers := choices(s.Sys)
	for _, choice := range choices(s.Env) {
		var where []int
		for _, answer := range answers {
			where = append(where, next(a, q, choice+answer))
		}
		rows = append(rows, where)
	}
	return rows
}

// replyFaults tells what is wrong with the reply of a state of a rank above 0.
func replyFaults(a api.Auto, s api.Split, x api.Strategy, q int) []string {
	envs, syss := choices(s.Env), choices(s.Sys)
	if len(x.Reply[q]) != len(envs) {
		return []string{"many"}
	}
	var l []string
	for i, answer := range x.Reply[q] {
		if !slices.Contains(syss, answer) {
			l = append(l, "foreign")
		} else if n := x.Ranks[next(a, q, envs[i]+answer)]; n < 0 || n >= x.Ranks[q] {
			l = append(l, "falls")
		}
	}
	return l
}

// choiceFaults tells what is wrong with the choice of a state of the rank -1.
func choiceFaults(a api.Auto, s api.Split, x api.Strategy, q int) []string {
	if !slices.Contains(choices(s.Env), x.Choice[q]) {
		return []string{"stranger"}
	}
	for _, answer := range choices(s.Sys) {
		if x.Ranks[next(a, q, x.Choice[q]+answer)] != -1 {
			return []string{"stays"}
		}
	}
	return nil
}

// faults tells which of the chapter's conditions a strategy breaks, each with the state: none, if it keeps what it says.
func faults(a api.Auto, s api.Split, x api.Strategy) []string {
	var l []string
	for _, c := range []struct {
		name string
		many int
	}{{"ranks", len(x.Ranks)}, {"replies", len(x.Reply)}, {"choices", len(x.Choice)}} {
		if c.many != len(a.Accept) {
			l = append(l, c.name)
		}
	}
	if l != nil {
		return l
	}
	if x.Wins != (x.Ranks[0] >= 0) {
		l = append(l, "wins")
	}
	for q, rank := range x.Ranks {
		var own []string
		if a.Accept[q] != (rank == 0) {
			own = append(own, "zero")
		}
		if rank < -1 {
			own = append(own, "below")
		}
		if rank > 0 {
			own = append(own, replyFaults(a, s, x, q)...)
		} else if len(x.Reply[q]) > 0 {
			own = append(own, "reply")
		}
		if rank == -1 {
			own = append(own, choiceFaults(a, s, x, q)...)
		} else if x.Choice[q] != 0 {
			own = append(own, "choice")
		}
		for _, fault := range own {
			l = append(l, fault+" "+strconv.Itoa(q))
		}
	}
	return l
}

// model is a referee that keeps the letters of the rounds alone, and tells all else of them anew.
type model struct {
	a     api.Auto
	s     api.Split
	x     api.Strategy
	trace []api.Letter
}

// state tells the state.
func (m *model) state() int {
	q := 0
	for _, l := range m.trace {
		q = next(m.a, q, l)
	}
	return q
}

// over tells whether the play is.
func (m *model) over() bool { return m.a.Accept[m.state()] }

// choice tells what the environment has said, or the refusal.
func (m *model) choice() (api.Letter, api.Errno) {
	if m.x.Wins {
		return 0, api.ErrTurn
	}
	return m.x.Choice[m.state()], api.OK
}

// move plays a round, or tells the refusal.
func (m *model) move(raw uint64) (api.Letter, api.Errno) {
	if m.over() {
		return 0, api.ErrDone
	}
	at := slices.IndexFunc(choices(mover(m.s, m.x)), func(l api.Letter) bool { return uint64(l) == raw })
	if at < 0 {
		return 0, api.ErrMove
	}
	if len(m.trace) > 1023 {
		return 0, api.ErrLong
	}
	own := m.x.Choice[m.state()]
	if m.x.Wins {
		own = m.x.Reply[m.state()][at]
	}
	m.trace = append(m.trace, own+api.Letter(raw))
	return own + api.Letter(raw), api.OK
}

// back takes a round back, or tells the refusal.
func (m *model) back() api.Errno {
	if m.trace == nil {
		return api.ErrMissing
	}
	var less []api.Letter
	for i := range len(m.trace) - 1 {
		less = append(less, m.trace[i])
	}
	m.trace = less
	return api.OK
}

// growRow tells where the letters lead: by chance, or as some propositions alone say.
func growRow(chance *rand.Rand, n, states int) []int {
	where := make([]int, 1<<n)
	mask := chance.Intn(1 << n)
	if chance.Intn(3) == 0 {
		mask = 1<<n - 1
	}
	for l := range where {
		if l&mask == l {
			where[l] = chance.Intn(states)
		} else {
			where[l] = where[l&mask]
		}
	}
	return where
}

// growAuto tells an automaton of so many states, of which the first does not accept, and of the others one in so many does.
func growAuto(chance *rand.Rand, n, states, few int) api.Auto {
	accept := make([]bool, states)
	rows := make([][]int, states)
	for q := range rows {
		accept[q] = q > 0 && chance.Intn(few) == 0
		rows[q] = growRow(chance, n, states)
	}
	return built(n, accept, rows)
}

// growLong tells an automaton whose letters mostly lead to states near by, and of which the last state alone accepts: its ranks are high.
func growLong(chance *rand.Rand, n, states int) api.Auto {
	accept := make([]bool, states)
	accept[states-1] = states > 1
	rows := make([][]int, states)
	for q := range rows {
		rows[q] = growRow(chance, n, 4)
		for l, far := range rows[q] {
			rows[q][l] = max(0, min(states-1, q+far-1))
		}
	}
	return built(n, accept, rows)
}

// growAny tells an automaton of one of both kinds.
func growAny(chance *rand.Rand, n, states int) api.Auto {
	if chance.Intn(2) == 0 {
		return growLong(chance, n, states)
	}
	return growAuto(chance, n, states, 4)
}

// growSplit tells a split of n propositions.
func growSplit(chance *rand.Rand, n int) api.Split {
	l := splitsOf(n)
	return l[chance.Intn(len(l))]
}

// growMoves tells so many moves of a side.
func growMoves(chance *rand.Rand, mask api.Letter, many int) []api.Letter {
	of := choices(mask)
	l := make([]api.Letter, many)
	for i := range l {
		l[i] = of[chance.Intn(len(of))]
	}
	return l
}

// mover tells the propositions of the side against which a strategy plays.
func mover(s api.Split, x api.Strategy) api.Letter {
	if x.Wins {
		return s.Env
	}
	return s.Sys
}

// led tells by chance, of a state, an answer to each choice of the environment that leads to a state that has a rank, and the greatest of these; false, if there is none to some choice.
func led(chance *rand.Rand, a api.Auto, s api.Split, ranks []int, q int) (reply []api.Letter, most int, all bool) {
	syss := choices(s.Sys)
	for _, where := range goes(a, s, q) {
		at := chance.Perm(len(where))
		i := slices.IndexFunc(at, func(j int) bool { return ranks[where[j]] >= 0 })
		if i < 0 {
			return nil, 0, false
		}
		reply = append(reply, syss[at[i]])
		most = max(most, ranks[where[at[i]]])
	}
	return reply, most, true
}

// growStrategy tells by chance a strategy that keeps what it says: states get ranks in any order in which they may, greater ones than they need, with any answers that lead on; those that get none have any choice that keeps them so.
func growStrategy(chance *rand.Rand, a api.Auto, s api.Split) api.Strategy {
	n := len(a.Accept)
	x := api.Strategy{Ranks: make([]int, n), Reply: make([][]api.Letter, n), Choice: make([]api.Letter, n)}
	for q, is := range a.Accept {
		if !is {
			x.Ranks[q] = -1
		}
	}
	for grows := true; grows; {
		grows = false
		for _, q := range chance.Perm(n) {
			reply, most, all := led(chance, a, s, x.Ranks, q)
			if x.Ranks[q] == -1 && all {
				x.Ranks[q], x.Reply[q], grows = most+1+chance.Intn(3), reply, true
			}
		}
	}
	envs := choices(s.Env)
	for q := range n {
		if x.Ranks[q] != -1 {
			continue
		}
		for _, i := range chance.Perm(len(envs)) {
			x.Choice[q] = envs[i]
			if choiceFaults(a, s, x, q) == nil {
				break
			}
		}
	}
	x.Wins = x.Ranks[0] >= 0
	return x
}
