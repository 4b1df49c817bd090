package prog_test

import (
	"math/rand"
	"slices"
	"strconv"
	"strings"
	"testing"

	"rejoinder/api"
	"rejoinder/kernel"
	"rejoinder/mean"
	"rejoinder/prog"
)

// opNames tells tokens as the document writes them, by Op.
var opNames = strings.Fields("True False Prop Last More Over Not Next Weak Finally Globally And Or Imp Iff Until Release Dia Box Step Test Plus Seq Star")

// tokens reads tokens, of which one may be said so many times: Next*63.
func tokens(s string) []api.Tok {
	var l []api.Tok
	for _, word := range strings.Fields(s) {
		w, times, _ := strings.Cut(word, "*")
		n := 1
		if times != "" {
			n, _ = strconv.Atoi(times)
		}
		op := slices.Index(opNames, w)
		switch {
		case len(w) == 2 && w[0] == 'P':
			l = append(l, slices.Repeat([]api.Tok{{Op: api.Prop, P: w[1] - '0'}}, n)...)
		case op >= 0:
			l = append(l, slices.Repeat([]api.Tok{{Op: api.Op(op)}}, n)...)
		default:
			panic("no token: " + word)
		}
	}
	return l
}

// told tells tokens as the document writes them.
func told(l []api.Tok) string {
	var words []string
	for _, tok := range l {
		switch {
		case tok.Op == api.Prop:
			words = append(words, "P"+strconv.Itoa(int(tok.P)))
		case int(tok.Op) < len(opNames):
			words = append(words, opNames[tok.Op])
		default:
			words = append(words, "?"+strconv.Itoa(int(tok.Op)))
		}
	}
	return strings.Join(words, " ")
}

// toldAll tells formulas, one behind the other.
func toldAll(all [][]api.Tok) string {
	var texts []string
	for _, l := range all {
		texts = append(texts, told(l))
	}
	return strings.Join(texts, "; ")
}

// numbers reads sets: "3 1 5".
func numbers(s string) []uint64 {
	var l []uint64
	for _, word := range strings.Fields(s) {
		n, err := strconv.ParseUint(word, 10, 64)
		if err != nil {
			panic("no set: " + word)
		}
		l = append(l, n)
	}
	return l
}

// The tests hold progs against a model that goes by the chapter's words: a formula is its tokens, cut from the back; a set is a text of noughts and ones; letters and the end are asked of mean, negations of kernel. The program goes by items, each worked out once.

// arity tells how many parts each token takes, by Op.
var arity = [...]int{0, 0, 0, 0, 0, 0, 1, 1, 1, 1, 1, 2, 2, 2, 2, 2, 2, 2, 2, 1, 1, 2, 2, 1}

// begins tells where the part of the last token begins.
func begins(l []api.Tok) int {
	at := len(l) - 1
	for range arity[l[at].Op] {
		at = begins(l[:at])
	}
	return at
}

// cut tells the last token, and what it takes.
func cut(l []api.Tok) (last api.Tok, a, b []api.Tok) {
	last, ahead := l[len(l)-1], l[:len(l)-1]
	switch arity[last.Op] {
	case 1:
		a = ahead
	case 2:
		at := begins(ahead)
		a, b = ahead[:at], ahead[at:]
	}
	return last, a, b
}

// join tells a formula of a path and a formula.
func join(path, f []api.Tok, op api.Op) []api.Tok {
	return slices.Concat(path, f, []api.Tok{{Op: op}})
}

// set is which of 64 numbers are in, as noughts and ones, the greatest number first.
type set string

// setOf tells a set that has the bits of a number.
func setOf(n uint64) set {
	s := strconv.FormatUint(n, 2)
	return set(strings.Repeat("0", 64-len(s)) + s)
}

// number tells the number that has a set's bits.
func (s set) number() uint64 {
	n, err := strconv.ParseUint(string(s), 2, 64)
	if err != nil {
		panic("no set: " + s)
	}
	return n
}

// has tells whether a number is in.
func (s set) has(i int) bool { return s[63-i] == '1' }

// with tells a set of the numbers of both.
func (s set) with(other set) set {
	l := []byte(s)
	for i := range l {
		l[i] = max(l[i], other[i])
	}
	return set(l)
}

// lies tells whether all of a set is in another one.
func (s set) lies(other set) bool {
	for i := range len(s) {
		if s[i] > other[i] {
			return false
		}
	}
	return true
}

// least tells the least sets, rising.
func least(l []set) []set {
	sorted := slices.Clone(l)
	slices.Sort(sorted)
	sorted = slices.Compact(sorted)
	var all []set
	for _, s := range sorted {
		if !slices.ContainsFunc(sorted, func(x set) bool { return x != s && x.lies(s) }) {
			all = append(all, s)
		}
	}
	return all
}

// nothing is the list of the empty set.
func nothing() []set { return []set{setOf(0)} }

// model is what a prog must be.
type model struct {
	whole  []api.Tok
	met    []string
	failed bool // for too many obligations, or sets
}

// fail makes all that follows none.
func (m *model) fail() []set {
	m.failed = true
	return nil
}

func (m *model) and(a, b []set) []set {
	if m.failed || len(a)*len(b) > 1024 {
		return m.fail()
	}
	var all []set
	for _, x := range b {
		for _, y := range a {
			all = append(all, x.with(y))
		}
	}
	return least(all)
}

func (m *model) or(a, b []set) []set {
	if m.failed || len(a)+len(b) > 1024 {
		return m.fail()
	}
	return least(slices.Concat(b, a))
}

func (m *model) need(f []api.Tok) []set {
	if m.failed {
		return nil
	}
	last, a, b := cut(f)
	switch last.Op {
	case api.True:
		return nothing()
	case api.False:
		return nil
	case api.And:
		x := m.need(a)
		y := m.need(b)
		return m.and(x, y)
	case api.Or:
		x := m.need(a)
		y := m.need(b)
		return m.or(x, y)
	}
	i := slices.Index(m.met, told(f))
	if i < 0 {
		i = len(m.met)
		m.met = append(m.met, told(f))
	}
	if i == 64 {
		return m.fail()
	}
	return []set{setOf(1 << i)}
}

// fits tells what mean says of a formula about letters.
func fits(g []api.Tok, x api.Letter) bool {
	is, err := mean.At(g, []api.Letter{x}, 0)
	if err != api.OK {
		panic("mean does not take " + told(g))
	}
	return is
}

func (m *model) after(f []api.Tok, x api.Letter) []set {
	last, a, b := cut(f)
	switch last.Op {
	case api.True, api.False, api.More, api.Over, api.Prop, api.Not:
		if fits(f, x) {
			return nothing()
		}
		return nil
	case api.And, api.Or:
		one := m.after(a, x)
		other := m.after(b, x)
		if last.Op == api.And {
			return m.and(one, other)
		}
		return m.or(one, other)
	case api.Next:
		more := m.need(tokens("More"))
		next := m.need(a)
		return m.and(more, next)
	case api.Weak:
		over := m.need(tokens("Over"))
		next := m.need(a)
		return m.or(over, next)
	case api.Until, api.Release:
		now := m.after(b, x)
		on := m.after(a, x)
		again := m.need(f)
		if last.Op == api.Until {
			return m.or(now, m.and(on, again))
		}
		return m.and(now, m.or(on, again))
	}
	here := m.after(b, x)
	if last.Op == api.Dia {
		return m.dia(a, here, b, x)
	}
	return m.box(a, here, b, x)
}

func (m *model) dia(r []api.Tok, s []set, f []api.Tok, x api.Letter) []set {
	last, p, q := cut(r)
	switch last.Op {
	case api.Step:
		if fits(p, x) {
			return m.need(f)
		}
		return nil
	case api.Test:
		return m.and(m.after(p, x), s)
	case api.Plus:
		one := m.dia(p, s, f, x)
		other := m.dia(q, s, f, x)
		return m.or(one, other)
	case api.Seq:
		behind := m.dia(q, s, f, x)
		return m.dia(p, behind, join(q, f, api.Dia), x)
	}
	round := m.dia(p, nil, join(r, f, api.Dia), x)
	return m.or(s, round)
}

func (m *model) box(r []api.Tok, s []set, f []api.Tok, x api.Letter) []set {
	last, p, q := cut(r)
	switch last.Op {
	case api.Step:
		if fits(p, x) {
			return m.need(f)
		}
		return nothing()
	case api.Test:
		neg, err := kernel.Neg(p)
		if err != api.OK {
			panic("kernel does not negate " + told(p))
		}
		return m.or(m.after(neg, x), s)
	case api.Plus:
		one := m.box(p, s, f, x)
		other := m.box(q, s, f, x)
		return m.and(one, other)
	case api.Seq:
		behind := m.box(q, s, f, x)
		return m.box(p, behind, join(q, f, api.Box), x)
	}
	round := m.box(p, nothing(), join(r, f, api.Box), x)
	return m.and(s, round)
}

// plain tells a list's sets as numbers.
func plain(l []set) []uint64 {
	var all []uint64
	for _, s := range l {
		all = append(all, s.number())
	}
	return all
}

// ended forgets what a call met that failed.
func (m *model) ended(l []set, before int) ([]uint64, api.Errno) {
	if m.failed {
		m.failed = false
		m.met = m.met[:before]
		return nil, api.ErrObligations
	}
	return plain(l), api.OK
}

// newModel begins a model of a kernel formula.
func newModel(k []api.Tok) (*model, api.Errno) {
	m := &model{whole: k}
	_, err := m.start()
	return m, err
}

func (m *model) start() ([]uint64, api.Errno) {
	before := len(m.met)
	return m.ended(m.need(m.whole), before)
}

func (m *model) step(l []uint64, x api.Letter) ([]uint64, api.Errno) {
	before := len(m.met)
	for _, s := range l {
		for i := range 64 {
			if setOf(s).has(i) && i >= before {
				return nil, api.ErrArg
			}
		}
	}
	var left []set
	for _, s := range l {
		all := nothing()
		for i := range before {
			if setOf(s).has(i) {
				all = m.and(all, m.after(tokens(m.met[i]), x))
			}
		}
		left = m.or(left, all)
	}
	return m.ended(left, before)
}

func (m *model) final(l []uint64) bool {
	return slices.ContainsFunc(l, func(s uint64) bool {
		for i := range 64 {
			if setOf(s).has(i) && (i >= len(m.met) || !over(tokens(m.met[i]))) {
				return false
			}
		}
		return true
	})
}

// over tells what mean says of a formula at the end.
func over(k []api.Tok) bool {
	is, err := mean.At(k, nil, 0)
	if err != api.OK {
		panic("mean does not take " + told(k))
	}
	return is
}

// same asks all of a prog that asking does not change, which must be as the model says.
func same(t *testing.T, p *prog.Prog, m *model) {
	t.Helper()
	if got, must := toldAll(p.Atoms()), strings.Join(m.met, "; "); got != must {
		t.Fatalf("Atoms of %s: %s, not %s", told(m.whole), got, must)
	}
	must, _ := m.start()
	if got := p.Start(); !slices.Equal(got, must) {
		t.Fatalf("Start of %s: %v, not %v", told(m.whole), got, must)
	}
}

// sameStep steps both, and asks whether they go on as one.
func sameStep(t *testing.T, p *prog.Prog, m *model, l []uint64, x api.Letter) ([]uint64, api.Errno) {
	t.Helper()
	got, err := p.Step(l, x)
	want, must := m.step(l, x)
	if !slices.Equal(got, want) || err != must {
		t.Fatalf("Step(%v, %d) of %s: %v %d, not %v %d", l, x, told(m.whole), got, err, want, must)
	}
	if p.Final(l) != m.final(l) || p.Final(got) != m.final(got) {
		t.Fatalf("Final(%v), Final(%v) of %s: %t %t", l, got, told(m.whole), p.Final(l), p.Final(got))
	}
	same(t, p, m)
	return got, err
}

// grow tells a kernel formula of about so many tokens.
func grow(chance *rand.Rand, size int, plain bool) []api.Tok {
	if size <= 1 {
		leaves := []string{"P0", "P1", "P2", "P0 Not", "P1 Not", "True", "False", "More", "Over"}
		if plain {
			leaves = leaves[:7]
		}
		return tokens(leaves[chance.Intn(len(leaves))])
	}
	a := chance.Intn(size)
	if plain {
		return slices.Concat(grow(chance, a, true), grow(chance, size-1-a, true), tokens([]string{"And", "Or"}[chance.Intn(2)]))
	}
	switch op := []string{"Next", "Weak", "And", "Or", "Until", "Release", "Dia", "Box", "Dia", "Box"}[chance.Intn(10)]; op {
	case "Next", "Weak":
		return slices.Concat(grow(chance, size-1, false), tokens(op))
	case "Dia", "Box":
		return slices.Concat(growPath(chance, a), grow(chance, size-1-a, false), tokens(op))
	default:
		return slices.Concat(grow(chance, a, false), grow(chance, size-1-a, false), tokens(op))
	}
}

// growPath tells a path of about so many tokens.
func growPath(chance *rand.Rand, size int) []api.Tok {
	a := chance.Intn(max(size, 1))
	switch n := chance.Intn(6); {
	case n == 0 || size <= 2:
		return slices.Concat(grow(chance, min(size-1, 4), true), tokens("Step"))
	case n == 1:
		return slices.Concat(grow(chance, size-1, false), tokens("Test"))
	case n <= 3:
		return slices.Concat(growPath(chance, size-1), tokens("Star"))
	default:
		return slices.Concat(growPath(chance, a), growPath(chance, size-1-a), tokens([]string{"Plus", "Seq"}[n-4]))
	}
}
