package compile_test

import (
	"math/rand"
	"slices"
	"strconv"
	"strings"

	"rejoinder/api"
	"rejoinder/det"
	"rejoinder/term"
)

// opNames tells tokens as the document writes them, by Op.
var opNames = strings.Fields("True False Prop Last More Over Not Next Weak Finally Globally And Or Imp Iff Until Release Dia Box Step Test Plus Seq Star")

// tokens reads tokens, of which one may be said so many times: Next*63.
func tokens(s string) []api.Tok {
	var l []api.Tok
	for _, word := range strings.Fields(s) {
		w, times, _ := strings.Cut(word, "*")
		n := 1
		if times != "" {
			n, _ = strconv.Atoi(times)
		}
		op := slices.Index(opNames, w)
		switch {
		case len(w) == 2 && w[0] == 'P':
			l = append(l, slices.Repeat([]api.Tok{{Op: api.Prop, P: w[1] - '0'}}, n)...)
		case op >= 0:
			l = append(l, slices.Repeat([]api.Tok{{Op: api.Op(op)}}, n)...)
		default:
			panic("no token: " + word)
		}
	}
	return l
}

// told tells tokens as the document writes them.
func told(l []api.Tok) string {
	var words []string
	for _, tok := range l {
		switch {
		case tok.Op == api.Prop:
			words = append(words, "P"+strconv.Itoa(int(tok.P)))
		case int(tok.Op) < len(opNames):
			words = append(words, opNames[tok.Op])
		default:
			words = append(words, "?"+strconv.Itoa(int(tok.Op)))
		}
	}
	return strings.Join(words, " ")
}

// toldNumbers tells numbers: "1 6".
func toldNumbers(l ...int) string {
	var words []string
	for _, n := range l {
		words = append(words, strconv.Itoa(n))
	}
	return strings.Join(words, " ")
}

// toldAuto tells an automaton: its propositions, which states accept, their guards, and the nodes, as in "1: 001; 0 -2 -3; 0 -2 -3".
func toldAuto(a api.Auto) string {
	var text strings.Builder
	text.WriteString(strconv.Itoa(a.Props) + ": ")
	for _, is := range a.Accept {
		text.WriteString(map[bool]string{false: "0", true: "1"}[is])
	}
	text.WriteString("; " + toldNumbers(a.Guard...))
	for _, x := range a.Nodes {
		text.WriteString("; " + toldNumbers(x.P, x.Lo, x.Hi))
	}
	return text.String()
}

// empty tells whether nothing is told of an automaton.
func empty(a api.Auto) bool {
	return a.Props == 0 && len(a.Accept)+len(a.Guard)+len(a.Nodes) == 0
}

// The tests hold what is told against a model that makes the kernel formula by itself, out of the table of chapter 8, written as it stands there: a and b are the kernel formulas of what a token takes, na and nb those of the negations.
var table = map[string][2]string{
	"True": {"True", "False"}, "False": {"False", "True"}, "More": {"More", "Over"}, "Over": {"Over", "More"},
	"Last": {"More False Weak And", "Over True Next Or"},
	"Not":  {"na", "a"},
	"Next": {"a Next", "na Weak"}, "Weak": {"a Weak", "na Next"},
	"Finally": {"True a Until", "False na Release"}, "Globally": {"False a Release", "True na Until"},
	"And": {"a b And", "na nb Or"}, "Or": {"a b Or", "na nb And"},
	"Imp":   {"na b Or", "a nb And"},
	"Iff":   {"a b And na nb And Or", "a nb And na b And Or"},
	"Until": {"a b Until", "na nb Release"}, "Release": {"a b Release", "na nb Until"},
	"Dia": {"a b Dia", "a nb Box"}, "Box": {"a b Box", "a nb Dia"},
	"Step": {"a Step", ""}, "Test": {"a Test", ""}, "Star": {"a Star", ""}, "Plus": {"a b Plus", ""}, "Seq": {"a b Seq", ""},
}

// part is a token with what it takes, and how many tokens its kernel formula has, and its negation's: counted up to some number above all limits.
type part struct {
	tok       api.Tok
	of        []*part
	size, not int
}

// parted tells the part of tokens that are a formula's.
func parted(l []api.Tok) *part {
	var stack []*part
	for _, tok := range l {
		takes := 0
		if own := table[opNames[tok.Op]][0] + table[opNames[tok.Op]][1]; strings.Contains(own, "b") {
			takes = 2
		} else if strings.Contains(own, "a ") || strings.HasSuffix(own, "a") {
			takes = 1
		}
		x := &part{tok: tok, of: slices.Clone(stack[len(stack)-takes:])}
		x.size, x.not = x.count(0), x.count(1)
		stack = append(stack[:len(stack)-takes], x)
	}
	return stack[0]
}

// rule tells the line of the table.
func (x *part) rule(not int) []string {
	if x.tok.Op == api.Prop {
		return [][]string{{"it"}, {"it", "Not"}}[not]
	}
	return strings.Fields(table[opNames[x.tok.Op]][not])
}

// count adds up how many tokens a line of the table has.
func (x *part) count(not int) int {
	n := 0
	for _, word := range x.rule(not) {
		switch word {
		case "a":
			n += x.of[0].size
		case "na":
			n += x.of[0].not
		case "b":
			n += x.of[1].size
		case "nb":
			n += x.of[1].not
		default:
			n++
		}
	}
	return min(n, 1000000)
}

// kernel tells the kernel formula, or that of the negation.
func (x *part) kernel(not int) []api.Tok {
	var k []api.Tok
	for _, word := range x.rule(not) {
		switch word {
		case "a":
			k = append(k, x.of[0].kernel(0)...)
		case "na":
			k = append(k, x.of[0].kernel(1)...)
		case "b":
			k = append(k, x.of[1].kernel(0)...)
		case "nb":
			k = append(k, x.of[1].kernel(1)...)
		case "it":
			k = append(k, x.tok)
		default:
			k = append(k, tokens(word)...)
		}
	}
	return k
}

// modelRaw tells what Raw must tell.
func modelRaw(n int, l []api.Tok) (api.Auto, api.Errno) {
	if n < 0 || n > 8 {
		return api.Auto{}, api.ErrArg
	}
	if err := term.Check(l); err != api.OK {
		return api.Auto{}, err
	}
	for _, tok := range l {
		if tok.Op == api.Prop && int(tok.P) >= n {
			return api.Auto{}, api.ErrArg
		}
	}
	x := parted(l)
	if x.size > 2046 {
		return api.Auto{}, api.ErrLong
	}
	return det.Of(n, slices.Concat(tokens("More"), x.kernel(0), tokens("And")))
}

// The model of the smallest automaton looks at all pairs of states, again and again, and goes along the nodes by itself.

// next tells the state to which a letter leads.
func next(a api.Auto, s int, l api.Letter) int {
	ref := a.Guard[s]
	for ref >= 0 {
		x := a.Nodes[ref]
		ref = x.Lo
		if int(l)/[]int{1, 2, 4, 8, 16, 32, 64, 128}[x.P]%2 == 1 {
			ref = x.Hi
		}
	}
	return -1 - ref
}

// accepts tells whether an automaton accepts a trace.
func accepts(a api.Auto, tr []api.Letter) bool {
	s := 0
	for _, l := range tr {
		s = next(a, s, l)
	}
	return a.Accept[s]
}

// rows tells of each state where it leads, by rising letters.
func rows(a api.Auto) [][]int {
	all := make([][]int, len(a.Accept))
	for s := range all {
		for l := range 1 << a.Props {
			all[s] = append(all[s], next(a, s, api.Letter(l)))
		}
	}
	return all
}

// pair is where one trace leads in two automata, and by which letter it goes there from another pair.
type pair struct {
	p, q, from int
	by         api.Letter
}

// unlike tells a shortest trace that just one of two automata accepts, if there is one.
func unlike(a, b api.Auto) ([]api.Letter, bool) {
	one, other := rows(a), rows(b)
	queue := []pair{{from: -1}}
	met := map[[2]int]int{{0, 0}: 0}
	for at := 0; at < len(queue); at++ {
		x := queue[at]
		if a.Accept[x.p] != b.Accept[x.q] {
			var tr []api.Letter
			for ; x.from >= 0; x = queue[x.from] {
				tr = slices.Insert(tr, 0, x.by)
			}
			return tr, true
		}
		for l := range one[x.p] {
			y := [2]int{one[x.p][l], other[x.q][l]}
			if _, there := met[y]; !there {
				met[y] = len(queue)
				queue = append(queue, pair{y[0], y[1], at, api.Letter(l)})
			}
		}
	}
	return nil, false
}

// alikeStates tells two states that no trace parts, if there are such.
func alikeStates(a api.Auto) (int, int, bool) {
	to := rows(a)
	apart := make([][]bool, len(to))
	for p := range to {
		apart[p] = make([]bool, len(to))
		for q := range to {
			apart[p][q] = a.Accept[p] != a.Accept[q]
		}
	}
	leadsApart := func(p, q int) bool {
		for l := range to[p] {
			if apart[to[p][l]][to[q][l]] {
				return true
			}
		}
		return false
	}
	for more := true; more; {
		more = false
		for p := range to {
			for q := range p {
				if !apart[p][q] && leadsApart(p, q) {
					apart[p][q], apart[q][p], more = true, true, true
				}
			}
		}
	}
	for p := range to {
		if q := slices.Index(apart[p][:p], false); q >= 0 {
			return q, p, true
		}
	}
	return 0, 0, false
}

// metInOrder tells whether all states are reached from the state 0, and numbered as they are met: state by state, by rising letters.
func metInOrder(a api.Auto) bool {
	met := 1
	for s, where := range rows(a) {
		if s >= met {
			return false
		}
		for _, to := range where {
			if to > met {
				return false
			}
			met = max(met, to+1)
		}
	}
	return met == len(a.Accept)
}

// traces tells all traces of at most so many letters, each below few: shorter ones first.
func traces(long, few int) [][]api.Letter {
	all := [][]api.Letter{nil}
	begin := 0
	for range long {
		end := len(all)
		for _, tr := range all[begin:end] {
			for x := range few {
				all = append(all, append(slices.Clip(tr), api.Letter(x)))
			}
		}
		begin = end
	}
	return all
}

// growTrace tells a trace of so many letters, each below few.
func growTrace(chance *rand.Rand, long, few int) []api.Letter {
	tr := make([]api.Letter, long)
	for i := range tr {
		tr[i] = api.Letter(chance.Intn(few))
	}
	return tr
}

// grow tells a formula of about so many tokens, of all words that there are, over n propositions.
func grow(chance *rand.Rand, n, size int, plain bool) []api.Tok {
	pick := func(s string) []api.Tok {
		all := tokens(s)
		return all[chance.Intn(len(all)):][:1]
	}
	a := chance.Intn(max(size, 1))
	switch {
	case size <= 1 && n > 0 && chance.Intn(3) > 0:
		return []api.Tok{{Op: api.Prop, P: uint8(chance.Intn(n))}}
	case size <= 1 && plain:
		return pick("True False")
	case size <= 1:
		return pick("True False Last More Over Last")
	case plain && chance.Intn(4) == 0:
		return append(grow(chance, n, size-1, true), tokens("Not")...)
	case plain:
		return slices.Concat(grow(chance, n, a, true), grow(chance, n, size-1-a, true), pick("And Or Imp Iff"))
	}
	switch chance.Intn(6) {
	case 0, 1:
		return append(grow(chance, n, size-1, false), pick("Not Next Weak Finally Globally")...)
	case 2, 3:
		return slices.Concat(growPath(chance, n, a), grow(chance, n, size-1-a, false), pick("Dia Box"))
	}
	return slices.Concat(grow(chance, n, a, false), grow(chance, n, size-1-a, false), pick("And Or Imp Iff Until Release"))
}

// growPath tells a path of about so many tokens.
func growPath(chance *rand.Rand, n, size int) []api.Tok {
	a := chance.Intn(max(size, 1))
	switch x := chance.Intn(6); {
	case x == 0 || size <= 2:
		return append(grow(chance, n, min(size-1, 5), true), tokens("Step")...)
	case x == 1:
		return append(grow(chance, n, size-1, false), tokens("Test")...)
	case x <= 3:
		return append(growPath(chance, n, size-1), tokens("Star")...)
	default:
		return slices.Concat(growPath(chance, n, a), growPath(chance, n, size-1-a), tokens([]string{"Plus", "Seq"}[x-4]))
	}
}

// Formulas that go up to the limits

// joined joins parts by halves, so that they are nested no deeper than they must be.
func joined(op string, parts ...[]api.Tok) []api.Tok {
	if len(parts) == 1 {
		return parts[0]
	}
	half := len(parts) / 2
	return slices.Concat(joined(op, parts[:half]...), joined(op, parts[half:]...), tokens(op))
}

// different tells the n-th of many obligations that leave no others than themselves: P0 P0 Until and the like.
func different(n int) []api.Tok {
	return []api.Tok{{Op: api.Prop, P: uint8(n % 8)}, {Op: api.Prop, P: uint8(n / 8 % 8)}, {Op: []api.Op{api.Until, api.Release}[n/64]}}
}

// many tells n different obligations, joined.
func many(n int, op string) []api.Tok {
	var all [][]api.Tok
	for i := range n {
		all = append(all, different(i))
	}
	return joined(op, all...)
}

// pairs tells n pairs of different obligations, joined: if one of each pair is asked, these are 2^n sets.
func pairs(n int, op, within string) []api.Tok {
	var all [][]api.Tok
	for i := range n {
		all = append(all, joined(within, different(2*i), different(2*i+1)))
	}
	return joined(op, all...)
}

// soon tells that each of so many formulas is satisfied at some position. They are made of one: in the i-th each proposition is i more, round and round. But for the first state, each is what is still to come of them.
func soon(n int, form string) []api.Tok {
	var all [][]api.Tok
	for i := range n {
		f := tokens(form + " Finally")
		for j := range f {
			if f[j].Op == api.Prop {
				f[j].P = (f[j].P + uint8(i)) % 8
			}
		}
		all = append(all, f)
	}
	return joined("And", all...)
}

// rounds tells that the traces' length is a multiple of each of some numbers.
func rounds(numbers ...int) []api.Tok {
	var all [][]api.Tok
	for _, n := range numbers {
		steps := slices.Repeat([][]api.Tok{tokens("True Step")}, n)
		all = append(all, slices.Concat(joined("Seq", steps...), tokens("Star False Globally Dia")))
	}
	return joined("And", all...)
}

// steady tells that P0 holds at the first n positions: a state and a node for each.
func steady(n int) []api.Tok {
	return slices.Concat(joined("Seq", slices.Repeat([][]api.Tok{tokens("P0 Step")}, n)...), tokens("True Dia"))
}

// split tells a formula of which the one part is asked behind a letter with P7, the other behind one without it.
func split(with, without []api.Tok) []api.Tok {
	return slices.Concat(tokens("P7 Step"), with, tokens("Dia P7 Not Step"), without, tokens("Dia Or"))
}

// iffs tells so many Iffs, nested to the left, of a proposition: a kernel formula of 1, 9, 24, 54, 114, 234, 474, 954, 1914, 3834 .. tokens.
func iffs(n int, prop string) []api.Tok {
	return append(tokens(prop), slices.Repeat(tokens(prop+" Iff"), n)...)
}

// ofKernel tells a formula whose kernel formula has just so many tokens, from 1,917 on.
func ofKernel(n int) []api.Tok {
	l := iffs(8, "P0")
	for more := n - 1914; more > 0; {
		take := min(more, 20)
		if more-take == 1 {
			take--
		}
		l = slices.Concat(l, tokens("P1 Next*"+strconv.Itoa(take-2)+" And"))
		more -= take
	}
	return l
}
