package nfa_test

import (
	"math/rand"
	"slices"
	"strconv"
	"strings"

	"rejoinder/api"
	"rejoinder/kernel"
	"rejoinder/letter"
	"rejoinder/mean"
	"rejoinder/prog"
)

// opNames tells tokens as the document writes them, by Op.
var opNames = strings.Fields("True False Prop Last More Over Not Next Weak Finally Globally And Or Imp Iff Until Release Dia Box Step Test Plus Seq Star")

// tokens reads tokens, of which one may be said so many times: Next*63.
func tokens(s string) []api.Tok {
	var l []api.Tok
	for _, word := range strings.Fields(s) {
		w, times, _ := strings.Cut(word, "*")
		n := 1
		if times != "" {
			n, _ = strconv.Atoi(times)
		}
		op := slices.Index(opNames, w)
		switch {
		case len(w) == 2 && w[0] == 'P':
			l = append(l, slices.Repeat([]api.Tok{{Op: api.Prop, P: w[1] - '0'}}, n)...)
		case op >= 0:
			l = append(l, slices.Repeat([]api.Tok{{Op: api.Op(op)}}, n)...)
		default:
			panic("no token: " + word)
		}
	}
	return l
}

// told tells tokens as the document writes them.
func told(l []api.Tok) string {
	var words []string
	for _, tok := range l {
		switch {
		case tok.Op == api.Prop:
			words = append(words, "P"+strconv.Itoa(int(tok.P)))
		case int(tok.Op) < len(opNames):
			words = append(words, opNames[tok.Op])
		default:
			words = append(words, "?"+strconv.Itoa(int(tok.Op)))
		}
	}
	return strings.Join(words, " ")
}

// trace reads letters: "1 2 3".
func trace(s string) []api.Letter {
	var t []api.Letter
	for _, word := range strings.Fields(s) {
		n, err := strconv.ParseUint(word, 10, 8)
		if err != nil {
			panic("no letter: " + word)
		}
		t = append(t, api.Letter(n))
	}
	return t
}

// toldSets tells sets: "1 6".
func toldSets(l []uint64) string {
	var words []string
	for _, s := range l {
		words = append(words, strconv.FormatUint(s, 10))
	}
	return strings.Join(words, " ")
}

// toldBools tells bools as noughts and ones: "0110".
func toldBools(l []bool) string {
	text := make([]byte, len(l))
	for i, is := range l {
		text[i] = '0'
		if is {
			text[i] = '1'
		}
	}
	return string(text)
}

// toldNumbers tells numbers: "1 6".
func toldNumbers(l []int) string {
	var words []string
	for _, n := range l {
		words = append(words, strconv.Itoa(n))
	}
	return strings.Join(words, " ")
}

// toldNfa tells an automaton: its propositions, States, Start, Final, and of each state where each letter leads, as in "1: 1 0; 0; 01; none 1; 1 1".
func toldNfa(a api.Nfa) string {
	texts := []string{strconv.Itoa(a.Props) + ": " + toldSets(a.States), toldNumbers(a.Start), toldBools(a.Final)}
	for _, row := range a.Next {
		var lists []string
		for _, to := range row {
			switch len(to) {
			case 0:
				lists = append(lists, "none")
			case 1:
				lists = append(lists, toldNumbers(to))
			default:
				lists = append(lists, "("+toldNumbers(to)+")")
			}
		}
		texts = append(texts, strings.Join(lists, " "))
	}
	return strings.Join(texts, "; ")
}

// The tests hold nfa against a model that goes by the chapter's words: states are looked for from the front of their list, what is at the end is asked of mean, obligation by obligation, and of a trace each state is asked whether it is reached.

// modelMaking is the model's construction.
type modelMaking struct {
	p    *prog.Prog
	made api.Nfa
}

// meet tells the states of a list's sets.
func (m *modelMaking) meet(l []uint64) ([]int, api.Errno) {
	var states []int
	for _, set := range l {
		at := slices.Index(m.made.States, set)
		if at < 0 {
			at = len(m.made.States)
			m.made.States = append(m.made.States, set)
		}
		if at > 255 {
			return nil, api.ErrStates
		}
		states = append(states, at)
	}
	return states, api.OK
}

// finals tells which sets have obligations alone that are satisfied at the end.
func (m *modelMaking) finals() []bool {
	var ends []bool
	for _, a := range m.p.Atoms() {
		ends = append(ends, over(a))
	}
	var is []bool
	for _, set := range m.made.States {
		all := true
		for n := range 64 {
			all = all && (set>>n%2 == 0 || ends[n])
		}
		is = append(is, all)
	}
	return is
}

// modelOf tells what Of must tell.
func modelOf(n int, k []api.Tok) (api.Nfa, api.Errno) {
	if n < 0 || n > 8 {
		return api.Nfa{}, api.ErrArg
	}
	if err := kernel.Check(k); err != api.OK {
		return api.Nfa{}, err
	}
	for _, tok := range k {
		if tok.Op == api.Prop && int(tok.P) >= n {
			return api.Nfa{}, api.ErrArg
		}
	}
	p, err := prog.New(k)
	if err != api.OK {
		return api.Nfa{}, err
	}
	m := &modelMaking{p, api.Nfa{Props: n}}
	if m.made.Start, err = m.meet(p.Start()); err != api.OK {
		return api.Nfa{}, err
	}
	for len(m.made.Next) < len(m.made.States) {
		var row [][]int
		for _, x := range letter.All(n) {
			left, err := p.Step([]uint64{m.made.States[len(m.made.Next)]}, x)
			if err != api.OK {
				return api.Nfa{}, err
			}
			to, err := m.meet(left)
			if err != api.OK {
				return api.Nfa{}, err
			}
			row = append(row, to)
		}
		m.made.Next = append(m.made.Next, row)
	}
	m.made.Final = m.finals()
	return m.made, api.OK
}

// modelRun tells to which states some way leads.
func modelRun(a api.Nfa, tr []api.Letter) []int {
	var states []int
	for s := range a.States {
		if reaches(a, tr, s) {
			states = append(states, s)
		}
	}
	return states
}

// reaches tells whether some way leads to a state: which states it may come from is worked out from the end to the front.
func reaches(a api.Nfa, tr []api.Letter, s int) bool {
	from := []int{s}
	for i := len(tr) - 1; i >= 0; i-- {
		var ahead []int
		for b := range a.States {
			if slices.ContainsFunc(a.Next[b][tr[i]], func(to int) bool { return slices.Contains(from, to) }) {
				ahead = append(ahead, b)
			}
		}
		from = ahead
	}
	return slices.ContainsFunc(a.Start, func(b int) bool { return slices.Contains(from, b) })
}

// over tells what mean says of an obligation at the end, or prog where mean does not take it.
func over(k []api.Tok) bool {
	if is, err := mean.At(k, nil, 0); err == api.OK {
		return is
	}
	is, err := prog.Ends(k)
	if err != api.OK {
		panic("neither mean nor prog takes " + told(k))
	}
	return is
}

// grow tells a kernel formula of about so many tokens.
func grow(chance *rand.Rand, size int, plain bool) []api.Tok {
	if size <= 1 {
		leaves := []string{"P0", "P1", "P2", "P0 Not", "P1 Not", "True", "False", "More", "Over"}
		if plain {
			leaves = leaves[:7]
		}
		return tokens(leaves[chance.Intn(len(leaves))])
	}
	a := chance.Intn(size)
	if plain {
		return slices.Concat(grow(chance, a, true), grow(chance, size-1-a, true), tokens([]string{"And", "Or"}[chance.Intn(2)]))
	}
	switch op := []string{"Next", "Weak", "And", "Or", "Until", "Release", "Dia", "Box", "Dia", "Box"}[chance.Intn(10)]; op {
	case "Next", "Weak":
		return slices.Concat(grow(chance, size-1, false), tokens(op))
	case "Dia", "Box":
		return slices.Concat(growPath(chance, a), grow(chance, size-1-a, false), tokens(op))
	default:
		return slices.Concat(grow(chance, a, false), grow(chance, size-1-a, false), tokens(op))
	}
}

// growPath tells a path of about so many tokens.
func growPath(chance *rand.Rand, size int) []api.Tok {
	a := chance.Intn(max(size, 1))
	switch n := chance.Intn(6); {
	case n == 0 || size <= 2:
		return slices.Concat(grow(chance, min(size-1, 4), true), tokens("Step"))
	case n == 1:
		return slices.Concat(grow(chance, size-1, false), tokens("Test"))
	case n <= 3:
		return slices.Concat(growPath(chance, size-1), tokens("Star"))
	default:
		return slices.Concat(growPath(chance, a), growPath(chance, size-1-a), tokens([]string{"Plus", "Seq"}[n-4]))
	}
}

// growTrace tells a trace of so many letters, each below few.
func growTrace(chance *rand.Rand, long, few int) []api.Letter {
	tr := make([]api.Letter, long)
	for i := range tr {
		tr[i] = api.Letter(chance.Intn(few))
	}
	return tr
}

// traces tells all traces of at most so many letters, each below few.
func traces(long, few int) [][]api.Letter {
	all := [][]api.Letter{nil}
	begin := 0
	for range long {
		end := len(all)
		for _, tr := range all[begin:end] {
			for x := range few {
				all = append(all, append(slices.Clip(tr), api.Letter(x)))
			}
		}
		begin = end
	}
	return all
}

// different tells the n-th of many obligations that leave no others than themselves: P0 P0 Until and the like.
func different(n int) []api.Tok {
	return []api.Tok{{Op: api.Prop, P: uint8(n % 8)}, {Op: api.Prop, P: uint8(n / 8 % 8)}, {Op: []api.Op{api.Until, api.Release}[n/64]}}
}

// many tells n different obligations, joined.
func many(n int, op string) []api.Tok {
	k := different(0)
	for i := 1; i < n; i++ {
		k = slices.Concat(k, different(i), tokens(op))
	}
	return k
}

// pairs tells n pairs of different obligations, one of each pair being asked, with tokens behind each pair.
func pairs(n int, behind string) []api.Tok {
	var k []api.Tok
	for i := range n {
		k = slices.Concat(k, different(2*i), different(2*i+1), tokens("Or "+behind))
	}
	return slices.Concat(k, tokens("And*" + strconv.Itoa(n))[1:])
}
