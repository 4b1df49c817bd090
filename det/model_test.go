package det_test

import (
	"math/rand"
	"slices"
	"strconv"
	"strings"

	"rejoinder/api"
	"rejoinder/kernel"
	"rejoinder/letter"
	"rejoinder/mean"
	"rejoinder/prog"
)

// opNames tells tokens as the document writes them, by Op.
var opNames = strings.Fields("True False Prop Last More Over Not Next Weak Finally Globally And Or Imp Iff Until Release Dia Box Step Test Plus Seq Star")

// tokens reads tokens, of which one may be said so many times: Next*63.
func tokens(s string) []api.Tok {
	var l []api.Tok
	for _, word := range strings.Fields(s) {
		w, times, _ := strings.Cut(word, "*")
		n := 1
		if times != "" {
			n, _ = strconv.Atoi(times)
		}
		op := slices.Index(opNames, w)
		switch {
		case len(w) == 2 && w[0] == 'P':
			l = append(l, slices.Repeat([]api.Tok{{Op: api.Prop, P: w[1] - '0'}}, n)...)
		case op >= 0:
			l = append(l, slices.Repeat([]api.Tok{{Op: api.Op(op)}}, n)...)
		default:
			panic("no token: " + word)
		}
	}
	return l
}

// told tells tokens as the document writes them.
func told(l []api.Tok) string {
	var words []string
	for _, tok := range l {
		switch {
		case tok.Op == api.Prop:
			words = append(words, "P"+strconv.Itoa(int(tok.P)))
		case int(tok.Op) < len(opNames):
			words = append(words, opNames[tok.Op])
		default:
			words = append(words, "?"+strconv.Itoa(int(tok.Op)))
		}
	}
	return strings.Join(words, " ")
}

// toldNumbers tells numbers: "1 6".
func toldNumbers(l []int) string {
	var words []string
	for _, n := range l {
		words = append(words, strconv.Itoa(n))
	}
	return strings.Join(words, " ")
}

// toldLists tells lists of sets: "1; none; 0 6".
func toldLists(all [][]uint64) string {
	var texts []string
	for _, l := range all {
		var words []string
		for _, s := range l {
			words = append(words, strconv.FormatUint(s, 10))
		}
		if len(words) == 0 {
			words = []string{"none"}
		}
		texts = append(texts, strings.Join(words, " "))
	}
	return strings.Join(texts, "; ")
}

// toldAuto tells an automaton: its propositions, which states accept, their guards, and the nodes, as in "1: 001; 0 -2 -3; 0 -2 -3".
func toldAuto(a api.Auto) string {
	var text strings.Builder
	text.WriteString(strconv.Itoa(a.Props) + ": ")
	for _, is := range a.Accept {
		if is {
			text.WriteByte('1')
		} else {
			text.WriteByte('0')
		}
	}
	text.WriteString("; " + toldNumbers(a.Guard))
	for _, x := range a.Nodes {
		text.WriteString("; " + toldNumbers([]int{x.P, x.Lo, x.Hi}))
	}
	return text.String()
}

// The tests hold det against a model that goes by the chapter's words: each letter is stepped by, states and nodes are looked for from the front of their lists, and what is at the end is asked of mean, obligation by obligation.

// modelMaking is the model's construction.
type modelMaking struct {
	p     *prog.Prog
	lists [][]uint64
	made  api.Auto
}

// meet tells a list's state.
func (m *modelMaking) meet(l []uint64) int {
	at := slices.IndexFunc(m.lists, func(there []uint64) bool { return slices.Equal(there, l) })
	if at < 0 {
		at = len(m.lists)
		m.lists = append(m.lists, l)
	}
	return at
}

// decide tells the reference of where those letters lead that are as low says in their propositions below p.
func (m *modelMaking) decide(p, low int, where []int) int {
	if p == m.made.Props {
		return -1 - where[low]
	}
	lo := m.decide(p+1, low, where)
	hi := m.decide(p+1, low+1<<p, where)
	if lo == hi {
		return lo
	}
	x := api.Node{P: p, Lo: lo, Hi: hi}
	at := slices.Index(m.made.Nodes, x)
	if at < 0 {
		at = len(m.made.Nodes)
		m.made.Nodes = append(m.made.Nodes, x)
	}
	return at
}

// row goes on from the next state by all letters.
func (m *modelMaking) row() api.Errno {
	var where []int
	from := m.lists[len(m.made.Guard)]
	for _, x := range letter.All(m.made.Props) {
		left, err := m.p.Step(from, x)
		if err != api.OK {
			return err
		}
		where = append(where, m.meet(left))
		if len(m.lists) > 256 {
			return api.ErrStates
		}
	}
	m.made.Guard = append(m.made.Guard, m.decide(0, 0, where))
	if len(m.made.Nodes) > 4096 {
		return api.ErrGuards
	}
	return api.OK
}

// accepts tells which lists have a set of obligations alone that are satisfied at the end.
func (m *modelMaking) accepts() []bool {
	var ends []bool
	for _, a := range m.p.Atoms() {
		ends = append(ends, over(a))
	}
	var is []bool
	for _, l := range m.lists {
		is = append(is, slices.ContainsFunc(l, func(set uint64) bool {
			for n := range 64 {
				if set>>n%2 == 1 && !ends[n] {
					return false
				}
			}
			return true
		}))
	}
	return is
}

// modelOf tells what States and Of must tell.
func modelOf(n int, k []api.Tok) ([][]uint64, api.Auto, api.Errno) {
	lists, a, _, err := modelPoint(n, k)
	return lists, a, err
}

// modelPoint tells besides from which state on the construction ended in an error.
func modelPoint(n int, k []api.Tok) ([][]uint64, api.Auto, int, api.Errno) {
	if n < 0 || n > 8 {
		return nil, api.Auto{}, 0, api.ErrArg
	}
	if err := kernel.Check(k); err != api.OK {
		return nil, api.Auto{}, 0, err
	}
	for _, tok := range k {
		if tok.Op == api.Prop && int(tok.P) >= n {
			return nil, api.Auto{}, 0, api.ErrArg
		}
	}
	p, err := prog.New(k)
	if err != api.OK {
		return nil, api.Auto{}, 0, err
	}
	m := &modelMaking{p, [][]uint64{p.Start()}, api.Auto{Props: n}}
	for len(m.made.Guard) < len(m.lists) {
		at := len(m.made.Guard)
		if err := m.row(); err != api.OK {
			return nil, api.Auto{}, at, err
		}
	}
	m.made.Accept = m.accepts()
	return m.lists, m.made, 0, api.OK
}

// over tells what mean says of an obligation at the end, or prog where mean does not take it.
func over(k []api.Tok) bool {
	if is, err := mean.At(k, nil, 0); err == api.OK {
		return is
	}
	is, err := prog.Ends(k)
	if err != api.OK {
		panic("neither mean nor prog takes " + told(k))
	}
	return is
}

// grow tells a kernel formula of about so many tokens.
func grow(chance *rand.Rand, size int, plain bool) []api.Tok {
	if size <= 1 {
		leaves := []string{"P0", "P1", "P2", "P0 Not", "P1 Not", "True", "False", "More", "Over"}
		if plain {
			leaves = leaves[:7]
		}
		return tokens(leaves[chance.Intn(len(leaves))])
	}
	a := chance.Intn(size)
	if plain {
		return slices.Concat(grow(chance, a, true), grow(chance, size-1-a, true), tokens([]string{"And", "Or"}[chance.Intn(2)]))
	}
	switch op := []string{"Next", "Weak", "And", "Or", "Until", "Release", "Dia", "Box", "Dia", "Box"}[chance.Intn(10)]; op {
	case "Next", "Weak":
		return slices.Concat(grow(chance, size-1, false), tokens(op))
	case "Dia", "Box":
		return slices.Concat(growPath(chance, a), grow(chance, size-1-a, false), tokens(op))
	default:
		return slices.Concat(grow(chance, a, false), grow(chance, size-1-a, false), tokens(op))
	}
}

// growPath tells a path of about so many tokens.
func growPath(chance *rand.Rand, size int) []api.Tok {
	a := chance.Intn(max(size, 1))
	switch n := chance.Intn(6); {
	case n == 0 || size <= 2:
		return slices.Concat(grow(chance, min(size-1, 4), true), tokens("Step"))
	case n == 1:
		return slices.Concat(grow(chance, size-1, false), tokens("Test"))
	case n <= 3:
		return slices.Concat(growPath(chance, size-1), tokens("Star"))
	default:
		return slices.Concat(growPath(chance, a), growPath(chance, size-1-a), tokens([]string{"Plus", "Seq"}[n-4]))
	}
}

// growTrace tells a trace of so many letters, each below few.
func growTrace(chance *rand.Rand, long, few int) []api.Letter {
	tr := make([]api.Letter, long)
	for i := range tr {
		tr[i] = api.Letter(chance.Intn(few))
	}
	return tr
}

// traces tells all traces of at most so many letters, each below few.
func traces(long, few int) [][]api.Letter {
	all := [][]api.Letter{nil}
	begin := 0
	for range long {
		end := len(all)
		for _, tr := range all[begin:end] {
			for x := range few {
				all = append(all, append(slices.Clip(tr), api.Letter(x)))
			}
		}
		begin = end
	}
	return all
}

// different tells the n-th of many obligations that leave no others than themselves: P0 P0 Until and the like.
func different(n int) []api.Tok {
	return []api.Tok{{Op: api.Prop, P: uint8(n % 8)}, {Op: api.Prop, P: uint8(n / 8 % 8)}, {Op: []api.Op{api.Until, api.Release}[n/64]}}
}

// many tells n different obligations, joined.
func many(n int, op string) []api.Tok {
	k := different(0)
	for i := 1; i < n; i++ {
		k = slices.Concat(k, different(i), tokens(op))
	}
	return k
}

// pairs tells n pairs of different obligations, one of each pair being asked, with tokens behind each pair.
func pairs(n int, behind string) []api.Tok {
	var k []api.Tok
	for i := range n {
		k = slices.Concat(k, different(2*i), different(2*i+1), tokens("Or "+behind))
	}
	return slices.Concat(k, tokens("And*" + strconv.Itoa(n))[1:])
}

// soon tells that each of so many formulas is satisfied at some position. They are made of one, in which the digits stand for propositions: in the i-th each is i more, round and round. Each state is what is still to come of them.
func soon(n int, form string) []api.Tok {
	var k []api.Tok
	for i := range n {
		f := tokens("True " + form + " Until")
		for j := range f {
			if f[j].Op == api.Prop {
				f[j].P = (f[j].P + uint8(i)) % 8
			}
		}
		k = slices.Concat(k, f)
	}
	return slices.Concat(k, tokens("And*" + strconv.Itoa(n))[1:])
}

// exactly tells what is satisfied at a position with one letter of eight propositions alone.
func exactly(x api.Letter) string {
	var words []string
	for p := range 8 {
		words = append(words, "P"+strconv.Itoa(p))
		if x>>p%2 == 0 {
			words = append(words, "Not")
		}
	}
	return strings.Join(words, " ") + " And*7"
}

// behind tells a formula that is asked behind each letter that satisfies another one, by a Dia or a Box.
func behind(letters string, k []api.Tok, op string) []api.Tok {
	return slices.Concat(tokens(letters+" Step"), k, tokens(op))
}

// parted tells a formula of which the one part is asked behind a letter with P7, the other behind one without it.
func parted(with, without []api.Tok) []api.Tok {
	return slices.Concat(behind("P7", with, "Dia"), behind("P7 Not", without, "Dia"), tokens("Or"))
}
