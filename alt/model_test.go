package alt_test

import (
	"math/rand"
	"slices"
	"strconv"
	"strings"
	"testing"

	"rejoinder/alt"
	"rejoinder/api"
	"rejoinder/kernel"
	"rejoinder/letter"
	"rejoinder/mean"
	"rejoinder/prog"
	"rejoinder/sets"
)

// opNames tells tokens as the document writes them, by Op.
var opNames = strings.Fields("True False Prop Last More Over Not Next Weak Finally Globally And Or Imp Iff Until Release Dia Box Step Test Plus Seq Star")

// tokens reads tokens, of which one may be said so many times: Next*63.
func tokens(s string) []api.Tok {
	var l []api.Tok
	for _, word := range strings.Fields(s) {
		w, times, _ := strings.Cut(word, "*")
		n := 1
		if times != "" {
			n, _ = strconv.Atoi(times)
		}
		op := slices.Index(opNames, w)
		switch {
		case len(w) == 2 && w[0] == 'P':
			l = append(l, slices.Repeat([]api.Tok{{Op: api.Prop, P: w[1] - '0'}}, n)...)
		case op >= 0:
			l = append(l, slices.Repeat([]api.Tok{{Op: api.Op(op)}}, n)...)
		default:
			panic("no token: " + word)
		}
	}
	return l
}

// told tells tokens as the document writes them.
func told(l []api.Tok) string {
	var words []string
	for _, tok := range l {
		switch {
		case tok.Op == api.Prop:
			words = append(words, "P"+strconv.Itoa(int(tok.P)))
		case int(tok.Op) < len(opNames):
			words = append(words, opNames[tok.Op])
		default:
			words = append(words, "?"+strconv.Itoa(int(tok.Op)))
		}
	}
	return strings.Join(words, " ")
}

// toldAll tells formulas, one behind the other.
func toldAll(all [][]api.Tok) string {
	var texts []string
	for _, l := range all {
		texts = append(texts, told(l))
	}
	return strings.Join(texts, "; ")
}

// trace reads letters: "1 2 3".
func trace(s string) []api.Letter {
	var t []api.Letter
	for _, word := range strings.Fields(s) {
		n, err := strconv.ParseUint(word, 10, 8)
		if err != nil {
			panic("no letter: " + word)
		}
		t = append(t, api.Letter(n))
	}
	return t
}

// toldSets tells sets: "1 6".
func toldSets(l []uint64) string {
	var words []string
	for _, s := range l {
		words = append(words, strconv.FormatUint(s, 10))
	}
	return strings.Join(words, " ")
}

// toldLists tells lists of sets, the list without sets as none: "1; 2 4; none".
func toldLists(all [][]uint64) string {
	var texts []string
	for _, l := range all {
		if len(l) == 0 {
			texts = append(texts, "none")
			continue
		}
		texts = append(texts, toldSets(l))
	}
	return strings.Join(texts, "; ")
}

// toldBools tells bools as noughts and ones: "0110".
func toldBools(l []bool) string {
	text := make([]byte, len(l))
	for i, is := range l {
		text[i] = '0'
		if is {
			text[i] = '1'
		}
	}
	return string(text)
}

// run is all that is told of a formula and a trace.
type run struct {
	lists    [][]uint64
	forward  api.Errno
	held     []uint64
	atoms    [][]api.Tok
	backward api.Errno
	sat      bool
	satErr   api.Errno
	all      []bool
	allErr   api.Errno
}

// text tells a run, to be held against another one.
func (r run) text() string {
	var b strings.Builder
	b.WriteString("Forward: " + toldLists(r.lists) + ", " + strconv.Itoa(int(r.forward)))
	b.WriteString("\nBackward: " + toldSets(r.held) + "; " + toldAll(r.atoms) + ", " + strconv.Itoa(int(r.backward)))
	b.WriteString("\nSat: " + strconv.FormatBool(r.sat) + ", " + strconv.Itoa(int(r.satErr)))
	b.WriteString("\nAll: " + toldBools(r.all) + ", " + strconv.Itoa(int(r.allErr)))
	return b.String()
}

// ask calls all four functions; what is refused has no other answers.
func ask(t *testing.T, k []api.Tok, tr []api.Letter) run {
	t.Helper()
	var r run
	r.lists, r.forward = alt.Forward(k, tr)
	r.held, r.atoms, r.backward = alt.Backward(k, tr)
	r.sat, r.satErr = alt.Sat(k, tr)
	r.all, r.allErr = alt.All(k, tr)
	if r.forward != api.OK && len(r.lists) > 0 || r.backward != api.OK && len(r.held)+len(r.atoms) > 0 || r.satErr != api.OK && r.sat || r.allErr != api.OK && len(r.all) > 0 {
		t.Errorf("%.80s, of %d letters: answers beside an error:\n%s", told(k), len(tr), r.text())
	}
	return r
}

// refusedAll tells a run of which all is refused.
func refusedAll(err api.Errno) run {
	return run{forward: err, backward: err, satErr: err, allErr: err}
}

// The tests hold alt against a model that goes by the chapter's words: letters are sorted, how many obligations there are is asked ahead of each, each obligation is stepped anew at each position, and the end is asked of mean.

// closedProg tells the closed prog of a formula and a trace.
func closedProg(k []api.Tok, tr []api.Letter) (*prog.Prog, api.Errno) {
	p, err := prog.New(k)
	if err != api.OK {
		return nil, err
	}
	rising := slices.Clone(tr)
	slices.Sort(rising)
	for n := 0; n < len(p.Atoms()); n++ {
		for _, x := range slices.Compact(slices.Clone(rising)) {
			if _, err := p.Step([]uint64{1 << n}, x); err != api.OK {
				return nil, err
			}
		}
	}
	return p, api.OK
}

// over tells what mean says of an obligation at the end, or prog where mean does not take it.
func over(k []api.Tok) bool {
	if is, err := mean.At(k, nil, 0); err == api.OK {
		return is
	}
	is, err := prog.Ends(k)
	if err != api.OK {
		panic("neither mean nor prog takes " + told(k))
	}
	return is
}

// modelHeld tells the sets that are satisfied, from the end on.
func modelHeld(p *prog.Prog, tr []api.Letter) []uint64 {
	atoms := p.Atoms()
	held := uint64(0)
	for n, a := range atoms {
		if over(a) {
			held += 1 << n
		}
	}
	all := []uint64{held}
	for i := len(tr) - 1; i >= 0; i-- {
		here := uint64(0)
		for n := range atoms {
			left, err := p.Step([]uint64{1 << n}, tr[i])
			if err != api.OK {
				panic("a closed prog does not step an obligation alone")
			}
			if slices.ContainsFunc(left, func(s uint64) bool { return s|all[0] == all[0] }) {
				here += 1 << n
			}
		}
		all = slices.Insert(all, 0, here)
	}
	return all
}

// model tells what must be told of a formula and a trace.
func model(k []api.Tok, tr []api.Letter) run {
	if err := kernel.Check(k); err != api.OK {
		return refusedAll(err)
	}
	if err := letter.Trace(8, tr); err != api.OK {
		return refusedAll(err)
	}
	p, err := closedProg(k, tr)
	if err != api.OK {
		return refusedAll(err)
	}
	r := run{held: modelHeld(p, tr), atoms: p.Atoms()}
	for _, held := range r.held {
		r.all = append(r.all, slices.ContainsFunc(p.Start(), func(s uint64) bool { return s|held == held }))
	}
	l := p.Start()
	r.lists = [][]uint64{l}
	for _, x := range tr {
		if l, err = p.Step(l, x); err != api.OK {
			r.lists, r.forward, r.satErr = nil, err, err
			return r
		}
		r.lists = append(r.lists, l)
	}
	r.sat = p.Final(l)
	return r
}

// sameAsModel asks all of a formula and a trace, which must be as the model says.
func sameAsModel(t *testing.T, k []api.Tok, tr []api.Letter) run {
	t.Helper()
	got, must := ask(t, k, tr), model(k, tr)
	if got.text() != must.text() {
		t.Fatalf("%s, by %v:\n%s\nnot\n%s", told(k), tr, got.text(), must.text())
	}
	return got
}

// follows asks what P12.4 says of a run.
func follows(t *testing.T, k []api.Tok, tr []api.Letter, r run) {
	t.Helper()
	if r.backward != api.OK || r.allErr != api.OK {
		t.Fatalf("%s, by %v: %d %d", told(k), tr, r.backward, r.allErr)
	}
	if must, err := mean.All(k, tr); err == api.OK && !slices.Equal(r.all, must) {
		t.Fatalf("All of %s, by %v: %s, not %s", told(k), tr, toldBools(r.all), toldBools(must))
	}
	for n, a := range r.atoms {
		must, err := mean.All(a, tr)
		if err != api.OK {
			continue
		}
		for i, held := range r.held {
			if held>>n%2 == 1 != must[i] {
				t.Fatalf("Backward of %s, by %v: of %s at %d: %t", told(k), tr, told(a), i, !must[i])
			}
		}
	}
	for _, held := range r.held {
		if len(r.atoms) < 64 && held>>len(r.atoms) != 0 {
			t.Fatalf("Backward of %s, by %v: %d is satisfied, of %d obligations", told(k), tr, held, len(r.atoms))
		}
	}
	if r.forward != api.OK || r.satErr != api.OK {
		return
	}
	if r.sat != r.all[0] || len(r.lists) != len(tr)+1 || len(r.held) != len(tr)+1 || len(r.all) != len(tr)+1 {
		t.Fatalf("%s, by %v:\n%s", told(k), tr, r.text())
	}
	for i, l := range r.lists {
		if sets.Holds(l, r.held[i]) != r.sat {
			t.Fatalf("%s, by %v: Sat is %t, at %d it is not", told(k), tr, r.sat, i)
		}
	}
}

// grow tells a kernel formula of about so many tokens.
func grow(chance *rand.Rand, size int, plain bool) []api.Tok {
	if size <= 1 {
		leaves := []string{"P0", "P1", "P2", "P0 Not", "P1 Not", "True", "False", "More", "Over"}
		if plain {
			leaves = leaves[:7]
		}
		return tokens(leaves[chance.Intn(len(leaves))])
	}
	a := chance.Intn(size)
	if plain {
		return slices.Concat(grow(chance, a, true), grow(chance, size-1-a, true), tokens([]string{"And", "Or"}[chance.Intn(2)]))
	}
	switch op := []string{"Next", "Weak", "And", "Or", "Until", "Release", "Dia", "Box", "Dia", "Box"}[chance.Intn(10)]; op {
	case "Next", "Weak":
		return slices.Concat(grow(chance, size-1, false), tokens(op))
	case "Dia", "Box":
		return slices.Concat(growPath(chance, a), grow(chance, size-1-a, false), tokens(op))
	default:
		return slices.Concat(grow(chance, a, false), grow(chance, size-1-a, false), tokens(op))
	}
}

// growPath tells a path of about so many tokens.
func growPath(chance *rand.Rand, size int) []api.Tok {
	a := chance.Intn(max(size, 1))
	switch n := chance.Intn(6); {
	case n == 0 || size <= 2:
		return slices.Concat(grow(chance, min(size-1, 4), true), tokens("Step"))
	case n == 1:
		return slices.Concat(grow(chance, size-1, false), tokens("Test"))
	case n <= 3:
		return slices.Concat(growPath(chance, size-1), tokens("Star"))
	default:
		return slices.Concat(growPath(chance, a), growPath(chance, size-1-a), tokens([]string{"Plus", "Seq"}[n-4]))
	}
}

// growTrace tells a trace of so many letters, each below few.
func growTrace(chance *rand.Rand, long, few int) []api.Letter {
	tr := make([]api.Letter, long)
	for i := range tr {
		tr[i] = api.Letter(chance.Intn(few))
	}
	return tr
}

// traces tells all traces of at most so many letters, each below few.
func traces(long, few int) [][]api.Letter {
	all := [][]api.Letter{nil}
	begin := 0
	for range long {
		end := len(all)
		for _, tr := range all[begin:end] {
			for x := range few {
				all = append(all, append(slices.Clip(tr), api.Letter(x)))
			}
		}
		begin = end
	}
	return all
}

// different tells the n-th of many obligations that leave no others than themselves: P0 P0 Until and the like.
func different(n int) []api.Tok {
	return []api.Tok{{Op: api.Prop, P: uint8(n % 8)}, {Op: api.Prop, P: uint8(n / 8 % 8)}, {Op: []api.Op{api.Until, api.Release}[n/64]}}
}

// many tells n different obligations, joined.
func many(n int, op string) []api.Tok {
	k := different(0)
	for i := 1; i < n; i++ {
		k = slices.Concat(k, different(i), tokens(op))
	}
	return k
}

// pairs tells n pairs of different obligations, one of each pair being asked, with tokens behind each pair.
func pairs(n int, behind string) []api.Tok {
	var k []api.Tok
	for i := range n {
		k = slices.Concat(k, different(2*i), different(2*i+1), tokens("Or "+behind))
	}
	return slices.Concat(k, tokens("And*" + strconv.Itoa(n))[1:])
}
