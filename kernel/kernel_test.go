package kernel_test

import (
	"fmt"
	"math/rand"
	"slices"
	"strconv"
	"strings"
	"testing"

	"rejoinder/api"
	"rejoinder/kernel"
	"rejoinder/mean"
	"rejoinder/term"
)

// opNames tells tokens as the document writes them, by Op.
var opNames = strings.Fields("True False Prop Last More Over Not Next Weak Finally Globally And Or Imp Iff Until Release Dia Box Step Test Plus Seq Star")

// tokens reads tokens, of which one may be said so many times: Not*63.
func tokens(s string) []api.Tok {
	var l []api.Tok
	for _, word := range strings.Fields(s) {
		w, times, _ := strings.Cut(word, "*")
		n := 1
		if times != "" {
			n, _ = strconv.Atoi(times)
		}
		op := slices.Index(opNames, w)
		switch {
		case len(w) == 2 && w[0] == 'P':
			l = append(l, slices.Repeat([]api.Tok{{Op: api.Prop, P: w[1] - '0'}}, n)...)
		case op >= 0:
			l = append(l, slices.Repeat([]api.Tok{{Op: api.Op(op)}}, n)...)
		default:
			panic("no token: " + word)
		}
	}
	return l
}

// told tells tokens as the document writes them.
func told(l []api.Tok) string {
	var words []string
	for _, tok := range l {
		switch {
		case tok.Op == api.Prop:
			words = append(words, "P"+strconv.Itoa(int(tok.P)))
		case int(tok.Op) < len(opNames):
			words = append(words, opNames[tok.Op])
		default:
			words = append(words, "?"+strconv.Itoa(int(tok.Op)))
		}
	}
	return strings.Join(words, " ")
}

// The tests read tokens from the back, as trees, and work their kernel formulas out by functions that call themselves, with the chapter's table: the program reads them from the front.

// takes tells what each token takes (f: a formula, p: a plain one, w: a path), by Op.
var takes = [...]string{"", "", "", "", "", "", "f", "f", "f", "f", "f", "ff", "ff", "ff", "ff", "ff", "ff", "wf", "wf", "p", "f", "ww", "ww", "w"}

// rows is the chapter's table.
var rows = map[api.Op][2]string{
	api.True:     {"True", "False"},
	api.False:    {"False", "True"},
	api.More:     {"More", "Over"},
	api.Over:     {"Over", "More"},
	api.Last:     {"More False Weak And", "Over True Next Or"},
	api.Not:      {"K'(a)", "K(a)"},
	api.Next:     {"K(a) Next", "K'(a) Weak"},
	api.Weak:     {"K(a) Weak", "K'(a) Next"},
	api.Finally:  {"True K(a) Until", "False K'(a) Release"},
	api.Globally: {"False K(a) Release", "True K'(a) Until"},
	api.And:      {"K(a) K(b) And", "K'(a) K'(b) Or"},
	api.Or:       {"K(a) K(b) Or", "K'(a) K'(b) And"},
	api.Imp:      {"K'(a) K(b) Or", "K(a) K'(b) And"},
	api.Iff:      {"K(a) K(b) And K'(a) K'(b) And Or", "K(a) K'(b) And K'(a) K(b) And Or"},
	api.Until:    {"K(a) K(b) Until", "K'(a) K'(b) Release"},
	api.Release:  {"K(a) K(b) Release", "K'(a) K'(b) Until"},
	api.Dia:      {"K(a) K(b) Dia", "K(a) K'(b) Box"},
	api.Box:      {"K(a) K(b) Box", "K(a) K'(b) Dia"},
	api.Step:     {"K(a) Step", ""},
	api.Test:     {"K(a) Test", ""},
	api.Plus:     {"K(a) K(b) Plus", ""},
	api.Seq:      {"K(a) K(b) Seq", ""},
	api.Star:     {"K(a) Star", ""},
}

// tree is a part: a token, and what it takes.
type tree struct {
	tok  api.Tok
	kids []tree
}

// row tells what the table says of a tree: its line's K and K'.
func (x tree) row() [2]string {
	if x.tok.Op == api.Prop {
		p := told([]api.Tok{x.tok})
		return [2]string{p, p + " Not"}
	}
	return rows[x.tok.Op]
}

// kid tells of which part a word of the table speaks, and whether of its negation.
func (x tree) kid(word string) (of *tree, neg bool) {
	switch word {
	case "K(a)", "K'(a)":
		of = &x.kids[0]
	case "K(b)", "K'(b)":
		of = &x.kids[1]
	}
	return of, strings.HasPrefix(word, "K'")
}

// kernel tells K, or K', with the table's words.
func (x tree) kernel(negated bool) []api.Tok {
	said := x.row()[0]
	if negated {
		said = x.row()[1]
	}
	var made []api.Tok
	for _, word := range strings.Fields(said) {
		if kid, neg := x.kid(word); kid != nil {
			made = append(made, kid.kernel(neg)...)
		} else {
			made = append(made, tokens(word)...)
		}
	}
	return made
}

// sizes tells how many tokens K and K' have: floats hold what no int does.
func (x tree) sizes() (own, neg float64) {
	var kids [][2]float64
	for _, kid := range x.kids {
		a, b := kid.sizes()
		kids = append(kids, [2]float64{a, b})
	}
	var sums [2]float64
	for i, said := range x.row() {
		for _, word := range strings.Fields(said) {
			switch word {
			case "K(a)":
				sums[i] += kids[0][0]
			case "K'(a)":
				sums[i] += kids[0][1]
			case "K(b)":
				sums[i] += kids[1][0]
			case "K'(b)":
				sums[i] += kids[1][1]
			default:
				sums[i]++
			}
		}
	}
	return sums[0], sums[1]
}

// plain tells whether a tree is of letters alone.
func (x tree) plain() bool {
	is := strings.Contains(" True False Prop Not And Or Imp Iff ", " "+opNames[x.tok.Op]+" ")
	for _, kid := range x.kids {
		is = is && kid.plain()
	}
	return is
}

// path tells whether a tree is a path.
func (x tree) path() bool { return x.tok.Op >= api.Step }

// fromBack reads the part of the last token, and tells what stands ahead of it.
func fromBack(l []api.Tok) (x tree, ahead []api.Tok, ok bool) {
	if len(l) == 0 {
		return tree{}, nil, false
	}
	x = tree{tok: l[len(l)-1]}
	if x.tok.Op > api.Star || x.tok.Op == api.Prop && x.tok.P > 7 || x.tok.Op != api.Prop && x.tok.P != 0 {
		return tree{}, nil, false
	}
	want := takes[x.tok.Op]
	x.kids = make([]tree, len(want))
	ahead = l[:len(l)-1]
	for i := len(want) - 1; i >= 0; i-- {
		if x.kids[i], ahead, ok = fromBack(ahead); !ok {
			return tree{}, nil, false
		}
		if want[i] == 'w' != x.kids[i].path() || want[i] == 'p' && !x.kids[i].plain() {
			return tree{}, nil, false
		}
	}
	return x, ahead, true
}

// whole reads tokens that are a formula's.
func whole(l []api.Tok) (x tree, is bool) {
	x, ahead, ok := fromBack(l)
	return x, ok && len(ahead) == 0 && !x.path()
}

// inKernel tells whether a tree is of a kernel formula's tokens.
func (x tree) inKernel() bool {
	switch x.tok.Op {
	case api.Last, api.Finally, api.Globally, api.Imp, api.Iff:
		return false
	case api.Not:
		return x.kids[0].tok.Op == api.Prop
	}
	for _, kid := range x.kids {
		if !kid.inKernel() {
			return false
		}
	}
	return true
}

// outside counts the propositions outside of paths: those without a Not, and those with one.
func (x tree) outside() (bare, negated int) {
	switch {
	case x.path():
		return 0, 0
	case x.tok.Op == api.Prop:
		return 1, 0
	case x.tok.Op == api.Not:
		return 0, 1
	}
	for _, kid := range x.kids {
		b, n := kid.outside()
		bare, negated = bare+b, negated+n
	}
	return bare, negated
}

// askOf asks Of and Size, and holds the answers against the chapter's words. It tells whether there was a kernel formula.
func askOf(t *testing.T, l []api.Tok) bool {
	t.Helper()
	err := term.Check(l)
	n, must, wants := 0, err, []api.Tok(nil)
	if err == api.OK {
		x, _ := whole(l)
		own, _ := x.sizes()
		n = int(min(own, 2049))
		if n == 2049 {
			must = api.ErrLong
		} else {
			wants = x.kernel(false)
		}
	}
	if got, e := kernel.Size(l); got != n || e != err {
		t.Fatalf("Size of %s = %d %d, not %d %d", told(l), got, e, n, err)
	}
	got, e := kernel.Of(l)
	if !slices.Equal(got, wants) || e != must {
		t.Fatalf("Of of %s = %s %d, not %s %d", told(l), told(got), e, told(wants), must)
	}
	if e == api.OK && (kernel.Check(got) != api.OK || len(got) != n) {
		t.Fatalf("Of of %s = %s is no kernel formula, or not of %d tokens", told(l), told(got), n)
	}
	return e == api.OK
}

// askNeg asks Check and Neg, and holds the answers against the chapter's words. It tells whether there was a negation.
func askNeg(t *testing.T, k []api.Tok) bool {
	t.Helper()
	err := api.OK
	x, is := tree{}, false
	if len(k) > 2048 {
		err = api.ErrLong
	} else if x, is = whole(k); !is || !x.inKernel() {
		err = api.ErrForm
	}
	if e := kernel.Check(k); e != err {
		t.Fatalf("Check of %s = %d, not %d", told(k), e, err)
	}
	var wants []api.Tok
	if err == api.OK {
		bare, negated := x.outside()
		if n := len(k) + bare - negated; n > 2048 {
			err = api.ErrLong
		} else if wants = x.kernel(true); len(wants) != n {
			t.Fatal("the test counts", n, "tokens of", told(wants))
		}
	}
	got, e := kernel.Neg(k)
	if !slices.Equal(got, wants) || e != err {
		t.Fatalf("Neg of %s = %s %d, not %s %d", told(k), told(got), e, told(wants), err)
	}
	if e == api.OK {
		if back, e := kernel.Neg(got); !slices.Equal(back, k) || e != api.OK || kernel.Check(got) != api.OK {
			t.Fatalf("Neg of %s, of %s = %s %d", told(got), told(k), told(back), e)
		}
	}
	return e == api.OK
}

// ask asks all calls.
func ask(t *testing.T, l []api.Tok) bool {
	t.Helper()
	of, neg := askOf(t, l), askNeg(t, l)
	return of || neg
}

// of asks Of and Size of a formula whose kernel formula is written out.
func of(t *testing.T, formula, must string) {
	t.Helper()
	got, err := kernel.Of(tokens(formula))
	if told(got) != must || err != api.OK {
		t.Errorf("Of of %s = %s %d, not %s", formula, told(got), err, must)
	}
	if n, err := kernel.Size(tokens(formula)); n != len(tokens(must)) || err != api.OK {
		t.Errorf("Size of %s = %d %d", formula, n, err)
	}
	if err := kernel.Check(got); err != api.OK {
		t.Errorf("Of of %s is no kernel formula: %s %d", formula, told(got), err)
	}
	askOf(t, tokens(formula))
}

// neg asks Neg of two kernel formulas, each the other one's negation.
func neg(t *testing.T, k, must string) {
	t.Helper()
	for _, x := range [][2]string{{k, must}, {must, k}} {
		if err := kernel.Check(tokens(x[0])); err != api.OK {
			t.Errorf("Check of %s = %d", x[0], err)
		}
		if got, err := kernel.Neg(tokens(x[0])); told(got) != x[1] || err != api.OK {
			t.Errorf("Neg of %s = %s %d, not %s", x[0], told(got), err, x[1])
		}
		askNeg(t, tokens(x[0]))
	}
}

// refused asks Of and Size, which must refuse.
func refused(t *testing.T, l []api.Tok, must api.Errno) {
	t.Helper()
	if got, err := kernel.Of(l); got != nil || err != must {
		t.Errorf("Of of %d tokens = %d tokens, %d, not %d", len(l), len(got), err, must)
	}
	if n, err := kernel.Size(l); n != 0 || err != must {
		t.Errorf("Size of %d tokens = %d %d, not %d", len(l), n, err, must)
	}
}

// tooLong asks Of and Size of a formula whose kernel formula has too many tokens.
func tooLong(t *testing.T, l []api.Tok) {
	t.Helper()
	if got, err := kernel.Of(l); got != nil || err != api.ErrLong {
		t.Errorf("Of of %d tokens = %d tokens, %d", len(l), len(got), err)
	}
	if n, err := kernel.Size(l); n != 2049 || err != api.OK {
		t.Errorf("Size of %d tokens = %d %d", len(l), n, err)
	}
	askOf(t, l)
}

// long asks Of and Size of a formula whose kernel formula has so many tokens.
func long(t *testing.T, l []api.Tok, n int) {
	t.Helper()
	if got, err := kernel.Of(l); len(got) != n || err != api.OK {
		t.Errorf("Of of %d tokens = %d tokens, not %d, %d", len(l), len(got), n, err)
	}
	if got, err := kernel.Size(l); got != n || err != api.OK {
		t.Errorf("Size of %d tokens = %d, not %d, %d", len(l), got, n, err)
	}
	askOf(t, l)
}

// noKernel asks Check and Neg, which must refuse.
func noKernel(t *testing.T, k []api.Tok, must api.Errno) {
	t.Helper()
	if err := kernel.Check(k); err != must {
		t.Errorf("Check of %d tokens = %d, not %d", len(k), err, must)
	}
	if got, err := kernel.Neg(k); got != nil || err != must {
		t.Errorf("Neg of %d tokens = %d tokens, %d, not %d", len(k), len(got), err, must)
	}
}

// The chapter's examples

func TestExamples(t *testing.T) {
	of(t, "P0 Not Not", "P0")
	of(t, "P0 Finally Not", "False P0 Not Release")
	of(t, "Last Not", "Over True Next Or")
	of(t, "P0 P1 Iff", "P0 P1 And P0 Not P1 Not And Or")
	of(t, "P0 P1 Imp Step Star Last Box", "P0 Not P1 Or Step Star More False Weak And Box")
	neg(t, "P0 Step P1 Dia", "P0 Step P1 Not Box")
	neg(t, "P0 P1 Not Until", "P0 Not P1 Release")
	noKernel(t, tokens("P0 P1 And Not"), api.ErrForm)
	noKernel(t, tokens("P0 Finally"), api.ErrForm)
	noKernel(t, tokens("Last"), api.ErrForm)
	tooLong(t, leftIffs(9))
}

// P8.1

func TestEachKindOfFormula(t *testing.T) {
	for _, x := range [][3]string{
		// a formula, its kernel formula, that of its negation
		{"True", "True", "False"},
		{"False", "False", "True"},
		{"More", "More", "Over"},
		{"Over", "Over", "More"},
		{"P0", "P0", "P0 Not"},
		{"P7", "P7", "P7 Not"},
		{"Last", "More False Weak And", "Over True Next Or"},
		{"P3 Not", "P3 Not", "P3"},
		{"P3 Not*3", "P3 Not", "P3"},
		{"Last Not*4", "More False Weak And", "Over True Next Or"},
		{"P0 Next", "P0 Next", "P0 Not Weak"},
		{"P0 Weak", "P0 Weak", "P0 Not Next"},
		{"P0 Finally", "True P0 Until", "False P0 Not Release"},
		{"P0 Globally", "False P0 Release", "True P0 Not Until"},
		{"P0 P1 And", "P0 P1 And", "P0 Not P1 Not Or"},
		{"P0 P1 Or", "P0 P1 Or", "P0 Not P1 Not And"},
		{"P0 P1 Imp", "P0 Not P1 Or", "P0 P1 Not And"},
		{"P0 P1 Iff", "P0 P1 And P0 Not P1 Not And Or", "P0 P1 Not And P0 Not P1 And Or"},
		{"P0 P1 Until", "P0 P1 Until", "P0 Not P1 Not Release"},
		{"P0 P1 Release", "P0 P1 Release", "P0 Not P1 Not Until"},
		{"P0 Step P1 Dia", "P0 Step P1 Dia", "P0 Step P1 Not Box"},
		{"P0 Step P1 Box", "P0 Step P1 Box", "P0 Step P1 Not Dia"},
	} {
		of(t, x[0], x[1])
		of(t, x[0]+" Not", x[2])
		of(t, x[0]+" Not Not", x[1])
		// The negation of an Iff's kernel formula is that of its Or.
		if !strings.Contains(x[0], "Iff") {
			neg(t, x[1], x[2])
		}
	}
	of(t, "P3 Not*63", "P3 Not")
	of(t, "P3 Not*62", "P3")
}

func TestEachKindOfFormulaWithinEachOther(t *testing.T) {
	for _, x := range [][3]string{
		{"P0 Finally Globally", "False True P0 Until Release", "True False P0 Not Release Until"},
		{"P0 Next Weak", "P0 Next Weak", "P0 Not Weak Next"},
		{"P0 Finally P1 Globally Imp", "False P0 Not Release False P1 Release Or", "True P0 Until True P1 Not Until And"},
		{"P0 P1 Imp P2 Iff", "P0 Not P1 Or P2 And P0 P1 Not And P2 Not And Or", "P0 Not P1 Or P2 Not And P0 P1 Not And P2 And Or"},
		{"P0 P1 P2 Imp Iff", "P0 P1 Not P2 Or And P0 Not P1 P2 Not And And Or", "P0 P1 P2 Not And And P0 Not P1 Not P2 Or And Or"},
		{"P0 Last Until", "P0 More False Weak And Until", "P0 Not Over True Next Or Release"},
		{"P0 P1 And P2 Or", "P0 P1 And P2 Or", "P0 Not P1 Not Or P2 Not And"},
		{"P0 P1 Not P2 Release Until", "P0 P1 Not P2 Release Until", "P0 Not P1 P2 Not Until Release"},
		{"More Over Until", "More Over Until", "Over More Release"},
	} {
		of(t, x[0], x[1])
		of(t, x[0]+" Not", x[2])
		of(t, x[0]+" Not Not", x[1])
		if !strings.Contains(x[0], "Iff") {
			neg(t, x[1], x[2])
		}
	}
}

func TestEachKindOfPath(t *testing.T) {
	for _, x := range [][2]string{
		// a path, its kernel formula
		{"P0 Step", "P0 Step"},
		{"True Step", "True Step"},
		{"P0 Not Step", "P0 Not Step"},
		{"P0 Not Not Step", "P0 Step"},
		{"P0 P1 Imp Step", "P0 Not P1 Or Step"},
		{"P0 P1 And Not Step", "P0 Not P1 Not Or Step"},
		{"P0 P1 Iff Step", "P0 P1 And P0 Not P1 Not And Or Step"},
		{"P0 P1 Iff Not Step", "P0 P1 Not And P0 Not P1 And Or Step"},
		{"P0 Test", "P0 Test"},
		{"P0 Finally Test", "True P0 Until Test"},
		{"P0 Finally Not Test", "False P0 Not Release Test"},
		{"Last Test", "More False Weak And Test"},
		{"Last Not Test", "Over True Next Or Test"},
		{"P0 Step P1 Test Plus", "P0 Step P1 Test Plus"},
		{"P0 Step P1 Test Seq", "P0 Step P1 Test Seq"},
		{"P0 Not Not Step P1 Not Test Plus", "P0 Step P1 Not Test Plus"},
		{"P0 Step Star", "P0 Step Star"},
		{"P0 Step P1 P2 Imp Step Seq Star", "P0 Step P1 Not P2 Or Step Seq Star"},
		{"P0 Step P1 Dia Not Test", "P0 Step P1 Not Box Test"},
		{"P0 Finally Test P1 Dia Not Test Star Star", "True P0 Until Test P1 Not Box Test Star Star"},
	} {
		// Of a negation's path it is the path's own.
		of(t, x[0]+" P3 Dia", x[1]+" P3 Dia")
		of(t, x[0]+" P3 Box", x[1]+" P3 Box")
		of(t, x[0]+" P3 Dia Not", x[1]+" P3 Not Box")
		of(t, x[0]+" P3 Box Not", x[1]+" P3 Not Dia")
		of(t, x[0]+" P3 Not Dia Not", x[1]+" P3 Box")
		of(t, x[0]+" P3 Last Imp Dia Not", x[1]+" P3 Over True Next Or And Box")
		neg(t, x[1]+" P3 Dia", x[1]+" P3 Not Box")
		neg(t, x[1]+" P3 Box", x[1]+" P3 Not Dia")
	}
}

func TestAllPropositions(t *testing.T) {
	for p := range 8 {
		name := "P" + strconv.Itoa(p)
		of(t, name, name)
		of(t, name+" Not", name+" Not")
		of(t, name+" Finally", "True "+name+" Until")
		neg(t, name, name+" Not")
	}
}

// leftIffs tells so many Iffs, nested to the left, of P0.
func leftIffs(n int) []api.Tok {
	return slices.Concat(tokens("P0"), slices.Repeat(tokens("P0 Iff"), n))
}

// rightIffs tells so many Iffs, nested to the right, of P0.
func rightIffs(n int) []api.Tok {
	return append(slices.Repeat(tokens("P0"), n+1), slices.Repeat(tokens("Iff"), n)...)
}

// evenIffs tells Iffs of Iffs on both sides, nested n times.
func evenIffs(n int) []api.Tok {
	if n == 0 {
		return tokens("P0")
	}
	a := evenIffs(n - 1)
	return slices.Concat(a, a, tokens("Iff"))
}

func TestIffsDouble(t *testing.T) {
	for n, size := range []int{1, 9, 24, 54, 114, 234, 474, 954, 1914} {
		long(t, leftIffs(n), size)
		long(t, rightIffs(n), size)
		if n > 0 {
			long(t, append(leftIffs(n), tokens("Not")...), size)
			long(t, append(rightIffs(n), tokens("Not Not")...), size)
		}
	}
	long(t, evenIffs(2), 39)
	long(t, evenIffs(3), 159)
	long(t, evenIffs(4), 639)
	tooLong(t, evenIffs(5))
	tooLong(t, evenIffs(8))
	for n := 9; n <= 63; n++ {
		// What they are is more than an int of 64 bits holds, in the end.
		tooLong(t, leftIffs(n))
		tooLong(t, rightIffs(n))
	}
	for n := 9; n <= 61; n++ {
		for _, s := range []string{"Not", "Next", "Globally Not", "Test True Box", "Step True Dia", "Step Star True Dia"} {
			if l := append(leftIffs(n), tokens(s)...); term.Check(l) == api.OK {
				tooLong(t, l)
			}
		}
		tooLong(t, append(tokens("True Test"), append(leftIffs(n), tokens("Box")...)...))
	}
	refused(t, leftIffs(64), api.ErrDeep)
	refused(t, rightIffs(64), api.ErrDeep)
	refused(t, evenIffs(9), api.ErrLong)
}

// more puts so many tokens more in a formula's kernel formula, and in its negation's.
func more(l []api.Tok, n int) []api.Tok {
	return slices.Concat(l, slices.Repeat(tokens("Last And"), n/5), slices.Repeat(tokens("Next"), n%5))
}

func TestSizesAroundTheLimit(t *testing.T) {
	for n := 2030; n <= 2048; n++ {
		long(t, more(leftIffs(8), n-1914), n)
		long(t, append(more(rightIffs(8), n-1914), tokens("Not")...), n)
	}
	for n := 2049; n <= 2070; n++ {
		tooLong(t, more(leftIffs(8), n-1914))
		tooLong(t, append(more(rightIffs(8), n-1914), tokens("Not")...))
	}
	// The sum passes the limit in the first part, in the second one, or by the token itself.
	full := more(leftIffs(8), 134)
	long(t, full, 2048)
	for _, s := range []string{"Next", "Weak", "Finally", "Globally", "True And", "P1 Until", "Test P1 Dia", "Not Next"} {
		tooLong(t, append(slices.Clone(full), tokens(s)...))
	}
	tooLong(t, slices.Concat(tokens("P1"), full, tokens("Or")))
	tooLong(t, slices.Concat(full, full, tokens("And")))
	long(t, append(slices.Clone(full), tokens("Not Not Not")...), 2048)
	long(t, slices.Concat(tokens("P1"), more(leftIffs(8), 132), tokens("Or")), 2048)
	long(t, slices.Concat(tokens("P1 Step"), more(leftIffs(8), 131), tokens("Dia")), 2048)
	tooLong(t, slices.Concat(tokens("P1 Step"), more(leftIffs(8), 132), tokens("Dia")))
	long(t, append(more(leftIffs(8), 131), tokens("Test True Box")...), 2048)
	tooLong(t, append(more(leftIffs(8), 132), tokens("Test True Box")...))
	long(t, append(leftIffs(8), tokens("Step Star True Box")...), 1918)
}

func TestJustOneOfBothIsTooLong(t *testing.T) {
	// K is within the limit, K' is not, or the other way round.
	a := append(more(leftIffs(8), 132), tokens("P1 And")...)
	long(t, a, 2048)
	long(t, append(slices.Clone(a), tokens("Not Not")...), 2048)
	tooLong(t, append(slices.Clone(a), tokens("Not")...))
	b := append(more(leftIffs(8), 132), tokens("P1 Not And")...)
	tooLong(t, b)
	tooLong(t, append(slices.Clone(b), tokens("Not Not")...))
	long(t, append(slices.Clone(b), tokens("Not")...), 2048)
	// Imp asks for K' of its first part alone, and K of its second.
	long(t, append(more(leftIffs(8), 130), tokens("P1 Not And False Imp")...), 2048)
	long(t, slices.Concat(tokens("False"), more(leftIffs(8), 130), tokens("P1 And Imp")), 2048)
	tooLong(t, append(more(leftIffs(8), 130), tokens("P1 And False Imp")...))
}

func TestNegationsThatNoOneAsksForMayBeTooLong(t *testing.T) {
	// Within a path just K is asked for.
	l := append(more(leftIffs(8), 111), slices.Repeat(tokens("P1 And"), 10)...)
	long(t, l, 2045)
	tooLong(t, append(slices.Clone(l), tokens("Not")...))
	long(t, append(slices.Clone(l), tokens("Test True Dia")...), 2048)
	long(t, append(slices.Clone(l), tokens("Test True Dia Not")...), 2048)
	long(t, append(slices.Clone(l), tokens("Not Not Test True Dia Not Not")...), 2048)
	tooLong(t, append(slices.Clone(l), tokens("Test True Dia Next")...))
	tooLong(t, append(slices.Clone(l), tokens("Not Test True Dia")...))
	// Of a path's Iffs both are asked for.
	tooLong(t, append(slices.Clone(l), tokens("Test True Dia Not P0 Iff")...))
}

func TestOfTokensThatAreRefused(t *testing.T) {
	for _, s := range []string{"", "P0 P1", "P0 Until", "Not", "And", "P0 Step", "P0 Step Star", "P0 Next Step P1 Dia", "Last Step P1 Dia", "P0 P1 Dia", "P0 Step Not", "P0 Step P1", "P0 Step P1 Step Dia", "P0 Star"} {
		refused(t, tokens(s), api.ErrForm)
	}
	for _, tok := range wrong() {
		refused(t, []api.Tok{tok}, api.ErrForm)
		refused(t, []api.Tok{{Op: api.True}, tok}, api.ErrForm)
		refused(t, []api.Tok{tok, {Op: api.Not}}, api.ErrForm)
	}
	refused(t, tokens("P0 Not*64"), api.ErrDeep)
	refused(t, tokens("P0 Next*64"), api.ErrDeep)
	refused(t, tokens("P0 Step Star*63 P0 Dia"), api.ErrDeep)
	refused(t, tokens("P0*513"), api.ErrLong)
	refused(t, tokens("P0 Not*512"), api.ErrLong)
	of(t, "P0 Next*63", "P0"+strings.Repeat(" Next", 63))
	// A formula of 512 tokens, and one more.
	l := append(balanced("P0", 256), tokens("Next")...)
	long(t, l, 512)
	refused(t, append(l, tokens("Not")...), api.ErrLong)
	long(t, append(balanced("P0", 256), tokens("Not")...), 3*256-1)
}

// balanced tells so many formulas, joined by And, nested as little as may be.
func balanced(leaf string, n int) []api.Tok {
	if n == 1 {
		return tokens(leaf)
	}
	return slices.Concat(balanced(leaf, n/2), balanced(leaf, n-n/2), tokens("And"))
}

// wrong tells tokens that may not be.
func wrong() []api.Tok {
	l := []api.Tok{{Op: api.Prop, P: 8}, {Op: api.Prop, P: 64}, {Op: api.Prop, P: 255}, {Op: 24}, {Op: 25, P: 1}, {Op: 26}, {Op: 27}, {Op: 28}, {Op: 128}, {Op: 255, P: 255}}
	for op := api.True; op <= api.Star; op++ {
		if op != api.Prop {
			l = append(l, api.Tok{Op: op, P: 1}, api.Tok{Op: op, P: 7}, api.Tok{Op: op, P: 128})
		}
	}
	return l
}

func TestOrderOfErrorsOfOf(t *testing.T) {
	// Too many tokens, no formula's, too deep, a kernel formula of too many tokens: each is told ahead of those behind it.
	refused(t, slices.Concat(leftIffs(300), tokens("And")), api.ErrLong)
	refused(t, leftIffs(256), api.ErrLong)
	refused(t, slices.Repeat([]api.Tok{{Op: 99}}, 513), api.ErrLong)
	refused(t, slices.Concat(leftIffs(200), tokens("P0")), api.ErrForm)
	refused(t, slices.Concat(leftIffs(200), tokens("Step")), api.ErrForm)
	refused(t, slices.Concat(leftIffs(60), tokens("P0")), api.ErrForm)
	refused(t, leftIffs(255), api.ErrDeep)
	refused(t, leftIffs(64), api.ErrDeep)
	tooLong(t, leftIffs(63))
}

// P8.2

func TestTokensThatAreNoKernelFormulas(t *testing.T) {
	for _, s := range []string{
		// no formula's
		"", "P0 P1", "P0 And", "And", "Next", "P0 Until", "P0 P1 Dia", "P0 Step", "P0 Step Star", "P0 Test", "P0 Step P1 Test Seq", "P0 Step P1", "P0 Step Next", "P0 Step P1 And",
		"P0 P1 Step And", "P0 Step P1 Step Dia", "P0 Star", "P0 P1 Plus", "P0 Step P1 Seq", "P0 P1 Step Seq", "P0 Step Step", "P0 Step Test", "Star", "Step", "Test", "Box", "P0 Box", "P0 Step Box", "P0 P1 P2 And", "P0 Not P1 Not",
		// Not behind others
		"Not", "True Not", "False Not", "More Not", "Over Not", "P0 Not Not", "P0 Next Not", "P0 P1 And Not", "P0 P1 Until Not", "P0 Step P1 Dia Not", "P0 Step Not", "Not P0", "P0 P1 And Not Step P2 Dia", "True Not Test P2 Dia", "P0 Not Not Not",
		// other tokens
		"Last", "P0 Finally", "P0 Globally", "P0 P1 Imp", "P0 P1 Iff", "Last Next", "P0 Finally Test P1 Dia", "P0 P1 Imp Step P2 Dia", "P0 P1 Iff Step P2 Box", "P0 Step Last Box", "P0 P1 Imp P2 And", "P0 P1 Globally Until",
		// Steps of what is not plain
		"More Step P0 Dia", "Over Step P0 Dia", "P0 Next Step P0 Dia", "P0 Weak Step P0 Dia", "P0 P1 Until Step P0 Dia", "P0 P1 Release Step P0 Dia", "P0 More And Step P0 Dia", "More P0 Or Step P0 Dia", "P0 Next Next P1 And Step P0 Dia", "P0 Step P0 Dia Step P1 Dia", "P0 Step P0 Box Step P1 Dia",
	} {
		noKernel(t, tokens(s), api.ErrForm)
		askNeg(t, tokens(s))
	}
	for _, tok := range wrong() {
		noKernel(t, []api.Tok{tok}, api.ErrForm)
		noKernel(t, []api.Tok{{Op: api.True}, tok}, api.ErrForm)
		noKernel(t, []api.Tok{{Op: api.True}, {Op: api.Prop}, tok}, api.ErrForm)
		noKernel(t, []api.Tok{tok, {Op: api.Not}}, api.ErrForm)
		noKernel(t, []api.Tok{{Op: api.Prop}, tok, {Op: api.And}}, api.ErrForm)
		noKernel(t, []api.Tok{tok, {Op: api.Prop}, {Op: api.And}}, api.ErrForm)
	}
}

func TestTokensThatAreKernelFormulas(t *testing.T) {
	for _, s := range []string{
		"True", "False", "P0", "P7", "P0 Not", "P7 Not", "More", "Over", "P0 P1 And", "P0 P1 Not Or", "P0 Not P1 And", "P0 Next", "P0 Not Weak", "P0 P1 Until", "More Over Release",
		"True Step P0 Dia", "False Step P0 Box", "P0 Step P0 Dia", "P0 Not Step P0 Not Dia", "P0 P1 And Step P2 Box", "P0 Not P1 Or True And Step P2 Box",
		"P0 Test P1 Dia", "More Test P1 Dia", "P0 Next Test P1 Box", "P0 P1 Until Test P1 Dia", "P0 Step P1 Dia Test P2 Box", "P0 Step P1 Test Plus P2 Dia", "P0 Step P1 Test Seq P2 Dia", "P0 Step Star P2 Dia", "P0 Test Star Star P2 Next Box",
	} {
		if err := kernel.Check(tokens(s)); err != api.OK {
			t.Errorf("Check of %s = %d", s, err)
		}
		if !askNeg(t, tokens(s)) || !askOf(t, tokens(s)) {
			t.Error(s, "was refused")
		}
		of(t, s, s)
	}
}

func TestTheLongestKernelFormulas(t *testing.T) {
	// Nested as deep as they have tokens, or as many side by side.
	for _, s := range []string{"True Next*2047", "False Weak*2047", "P0 Next*2047", "P0 Not Weak*2046", "P0*1024 And*1023 Next", "P0*1024 Or*1023", "More*1000 Until*999 Weak*49", "P0 Step Star*2044 True Dia", "P0*1000 And*999 Step True Box", "P0*1023 Or*1022 Test True Dia"} {
		k := tokens(s)
		if len(k) > 2048 || kernel.Check(k) != api.OK {
			t.Error(s, len(k), kernel.Check(k))
		}
		askNeg(t, k)
	}
	for _, s := range []string{"True Next*2048", "P0*2049", "P0 Next*2048", "Not*2049", "P0*1024 And*1023 Next Next", "P0 Finally*2048", "Last*3000"} {
		noKernel(t, tokens(s), api.ErrLong)
		askNeg(t, tokens(s))
	}
	noKernel(t, slices.Repeat([]api.Tok{{Op: 99}}, 2049), api.ErrLong)
	noKernel(t, slices.Repeat([]api.Tok{{Op: 99}}, 2048), api.ErrForm)
	noKernel(t, tokens("P0*2048"), api.ErrForm)
	noKernel(t, tokens("P0 Next*2046 Not"), api.ErrForm)
	noKernel(t, tokens("True Next*2046 Finally"), api.ErrForm)
	noKernel(t, tokens("Last Next*2047"), api.ErrForm)
	noKernel(t, make([]api.Tok, 1000000), api.ErrLong)
}

func TestNegationsOfTooManyTokens(t *testing.T) {
	for _, x := range []struct {
		k    string
		is   int // how many tokens there are
		must int // how many the negation has
	}{
		{"P0 Next*2045", 2046, 2047},
		{"P0 Next*2046", 2047, 2048},
		{"P0 Next*2047", 2048, 2049},
		{"P0 Not Next*2046", 2048, 2047},
		{"True Next*2047", 2048, 2048},
		{"P0 P1 Not And Next*2044", 2048, 2048},
		{"P0 P1 And Next*2043", 2046, 2048},
		{"P0 P1 And Next*2044", 2047, 2049},
		{"P0*683 And*682", 1365, 2048},
		{"P0*683 And*682 Next", 1366, 2049},
		{"P0*1024 Or*1023 Next", 2048, 3072},
		// Propositions within paths stay as they are.
		{"P0*1023 And*1022 Step True Dia", 2048, 2048},
		{"P0*1023 And*1022 Test True Box", 2048, 2048},
		{"P0*1022 And*1021 Test P1 Next Dia", 2047, 2048},
		{"P0*1022 And*1021 Test P1 Next Next Dia", 2048, 2049},
	} {
		k := tokens(x.k)
		if len(k) != x.is || kernel.Check(k) != api.OK {
			t.Fatal(x.k, len(k), kernel.Check(k))
		}
		got, err := kernel.Neg(k)
		if x.must > 2048 && (got != nil || err != api.ErrLong) {
			t.Error(x.k, len(got), err)
		}
		if x.must <= 2048 && (len(got) != x.must || err != api.OK) {
			t.Error(x.k, len(got), err)
		}
		askNeg(t, k)
	}
}

func TestNegWrittenOut(t *testing.T) {
	for _, x := range [][2]string{
		{"P0 Not P1 And", "P0 P1 Not Or"},
		{"P0 P1 Not P2 And Until", "P0 Not P1 P2 Not Or Release"},
		{"P0 Not P1 Or Step P2 Not Dia", "P0 Not P1 Or Step P2 Box"},
		{"P0 Step Star P1 Test Seq P2 P3 Until Dia", "P0 Step Star P1 Test Seq P2 Not P3 Not Release Box"},
		{"P0 Next Test P1 Weak Dia", "P0 Next Test P1 Not Next Box"},
		{"P0 Step P1 Dia Test P2 Box", "P0 Step P1 Dia Test P2 Not Dia"},
		{"P0 Step P1 Step P2 Box Dia", "P0 Step P1 Step P2 Not Dia Box"},
		{"More False Weak And", "Over True Next Or"},
		{"True False More Over And And And", "False True Over More Or Or Or"},
		{"P0 P1 And P0 Not P1 Not And Or", "P0 Not P1 Not Or P0 P1 Or And"},
	} {
		neg(t, x[0], x[1])
	}
}

// All calls, of many tokens

// alphabet is every token that may be, P0 and P7 for all propositions, and some that may not.
func alphabet() []api.Tok {
	l := tokens("P7")
	for op := range opNames {
		l = append(l, api.Tok{Op: api.Op(op)})
	}
	return append(l, api.Tok{Op: api.Prop, P: 8}, api.Tok{Op: api.True, P: 3}, api.Tok{Op: api.Not, P: 1}, api.Tok{Op: api.Star, P: 1}, api.Tok{Op: 24}, api.Tok{Op: 27})
}

// lists lists all lists of so many tokens of an alphabet.
func lists(alphabet []api.Tok, n int) [][]api.Tok {
	all := [][]api.Tok{nil}
	for range n {
		var longer [][]api.Tok
		for _, l := range all {
			for _, x := range alphabet {
				longer = append(longer, append(slices.Clone(l), x))
			}
		}
		all = longer
	}
	return all
}

func TestEveryShortList(t *testing.T) {
	for n := range 4 {
		for _, l := range lists(alphabet(), n) {
			ask(t, l)
		}
	}
	for _, l := range lists(tokens("P0 More Not Next And Dia Step Test Star"), 4) {
		ask(t, l)
	}
	for _, l := range lists(tokens("P1 Over Not Or Box Step Plus"), 5) {
		ask(t, l)
	}
}

// parts tells all parts of so many tokens, by kind: plain formulas, all formulas, paths.
type parts struct{ plain, all, paths [][][]api.Tok }

func (p *parts) grow(n int) {
	var plain, all, paths [][]api.Tok
	one := func(made [][]api.Tok, of [][]api.Tok, ops string) [][]api.Tok {
		for _, op := range tokens(ops) {
			for _, a := range of {
				made = append(made, append(slices.Clone(a), op))
			}
		}
		return made
	}
	two := func(made [][]api.Tok, first, second [][][]api.Tok, ops string) [][]api.Tok {
		for k := 1; k < n-1; k++ {
			for _, a := range first[k] {
				for _, b := range second[n-1-k] {
					made = one(made, [][]api.Tok{slices.Concat(a, b)}, ops)
				}
			}
		}
		return made
	}
	if n == 1 {
		plain = one(nil, [][]api.Tok{nil}, "P0 P1 True False")
		all = one(plain, [][]api.Tok{nil}, "Last More Over")
	} else {
		plain = two(one(nil, p.plain[n-1], "Not"), p.plain, p.plain, "And Or Imp Iff")
		all = two(one(nil, p.all[n-1], "Not Next Weak Finally Globally"), p.all, p.all, "And Or Imp Iff Until Release")
		all = two(all, p.paths, p.all, "Dia Box")
		paths = one(one(one(nil, p.plain[n-1], "Step"), p.all[n-1], "Test"), p.paths[n-1], "Star")
		paths = two(paths, p.paths, p.paths, "Plus Seq")
	}
	p.plain, p.all, p.paths = append(p.plain, plain), append(p.all, all), append(p.paths, paths)
}

func TestEveryShortPart(t *testing.T) {
	p := parts{plain: make([][][]api.Tok, 1), all: make([][][]api.Tok, 1), paths: make([][][]api.Tok, 1)}
	some := append(traces(2, 4), []api.Letter{0, 1, 2}, []api.Letter{3, 1, 0}, []api.Letter{2, 3, 1, 0})
	asked := 0
	for n := 1; n <= 4; n++ {
		p.grow(n)
		for _, l := range p.all[n] {
			ask(t, l)
			sameMeaning(t, l, some)
			asked++
		}
		for _, l := range p.paths[n] {
			refused(t, l, api.ErrForm)
			noKernel(t, l, api.ErrForm)
		}
	}
	if asked < 5000 {
		t.Error("just", asked, "were asked")
	}
}

// words is which tokens formulas are grown of.
type words struct{ alone, letters, one, two, oneOfLetters, twoOfLetters string }

var allWords = words{"P0 P1 P2 True False Last More Over", "P0 P1 P2 True False", "Not Next Weak Finally Globally", "And Or Imp Iff Until Release", "Not", "And Or Imp Iff"}
var kernelWords = words{"P0 P1 P2 True False More Over", "P0 P1 P2 True False", "Next Weak", "And Or Until Release", "", "And Or"}
var noIffs = words{"P0 P1 P2 True False Last More Over", "P0 P1 P2 True False", "Not Next Weak Finally Globally", "And Or Imp Until Release", "Not", "And Or Imp"}

// grow tells a part by chance, of about n tokens.
func (w words) grow(chance *rand.Rand, n int, path, plain bool) []api.Tok {
	pick := func(s string) api.Tok {
		all := tokens(s)
		return all[chance.Intn(len(all))]
	}
	some := chance.Intn(max(n-1, 1))
	switch {
	case path && n < 3:
		return append(w.grow(chance, 1, false, true), pick("Step Step Test"))
	case path:
		switch chance.Intn(6) {
		case 0:
			return append(w.grow(chance, n-1, false, true), pick("Step"))
		case 1:
			return append(w.grow(chance, n-1, false, false), pick("Test"))
		case 2, 3:
			return append(w.grow(chance, n-1, true, false), pick("Star"))
		}
		return slices.Concat(w.grow(chance, some, true, false), w.grow(chance, n-1-some, true, false), []api.Tok{pick("Plus Seq")})
	case n < 2:
		from := w.alone
		if plain {
			from = w.letters
		}
		l := []api.Tok{pick(from)}
		if l[0].Op == api.Prop && chance.Intn(3) == 0 {
			l = append(l, tokens("Not")...)
		}
		return l
	case plain && w.oneOfLetters != "" && chance.Intn(4) == 0:
		return append(w.grow(chance, n-1, false, true), pick(w.oneOfLetters))
	case plain:
		return slices.Concat(w.grow(chance, some, false, true), w.grow(chance, n-1-some, false, true), []api.Tok{pick(w.twoOfLetters)})
	}
	switch chance.Intn(6) {
	case 0, 1:
		return append(w.grow(chance, n-1, false, false), pick(w.one))
	case 2, 3:
		return slices.Concat(w.grow(chance, some, true, false), w.grow(chance, n-1-some, false, false), []api.Tok{pick("Dia Box")})
	}
	return slices.Concat(w.grow(chance, some, false, false), w.grow(chance, n-1-some, false, false), []api.Tok{pick(w.two)})
}

func TestGrownFormulas(t *testing.T) {
	chance := rand.New(rand.NewSource(8))
	taken, refused := 0, 0
	for i := range 3000 {
		n := chance.Intn(60)
		if i%10 == 0 {
			n = chance.Intn(450)
		}
		w := allWords
		if i%3 == 0 {
			w = noIffs
		}
		if askOf(t, w.grow(chance, n, false, false)) {
			taken++
		} else {
			refused++
		}
	}
	if taken < 2000 || refused < 50 {
		t.Error("just", taken, "were taken,", refused, "refused")
	}
}

func TestGrownKernelFormulas(t *testing.T) {
	chance := rand.New(rand.NewSource(80))
	taken, refused := 0, 0
	for i := range 1500 {
		n := chance.Intn(60)
		if i%10 == 0 {
			n = chance.Intn(2000)
		}
		k := kernelWords.grow(chance, n, false, false)
		if askNeg(t, k) {
			taken++
		} else {
			refused++
		}
		// One token is another one, is not there, or is there twice.
		at := chance.Intn(len(k))
		changed := slices.Clone(k)
		changed[at] = api.Tok{Op: api.Op(chance.Intn(25))}
		askNeg(t, changed)
		askNeg(t, slices.Delete(slices.Clone(k), at, at+1))
		askNeg(t, slices.Insert(slices.Clone(k), at, k[at]))
	}
	if taken < 1000 || refused < 5 {
		t.Error("just", taken, "were taken,", refused, "refused")
	}
}

// P8.3

// traces tells all traces of up to so many letters, of the letters below many.
func traces(long, many int) [][]api.Letter {
	all := [][]api.Letter{nil}
	last := all
	for range long {
		var longer [][]api.Letter
		for _, t := range last {
			for l := range many {
				longer = append(longer, append(slices.Clone(t), api.Letter(l)))
			}
		}
		all = append(all, longer...)
		last = longer
	}
	return all
}

// sameMeaning tells that a formula's kernel formula must be satisfied where it is, at each place and at the end, and its negation where it is not. It tells whether mean took all of them.
func sameMeaning(t *testing.T, l []api.Tok, some [][]api.Letter) bool {
	t.Helper()
	k, err := kernel.Of(l)
	if err != api.OK {
		return false
	}
	not, err := kernel.Neg(k)
	if err != api.OK {
		return false
	}
	for _, trace := range some {
		a, errA := mean.All(l, trace)
		b, errB := mean.All(k, trace)
		c, errC := mean.All(not, trace)
		if errA != api.OK || errB != api.OK || errC != api.OK {
			return false
		}
		for i := range a {
			if a[i] != b[i] || a[i] == c[i] {
				t.Fatalf("of %v, at %d: %s is %v, %s is %v, %s is %v", trace, i, told(l), a[i], told(k), b[i], told(not), c[i])
			}
		}
	}
	return true
}

func TestOfIsSatisfiedWhereTheFormulaIs(t *testing.T) {
	chance := rand.New(rand.NewSource(83))
	asked := 0
	for range 1500 {
		some := [][]api.Letter{nil}
		for n := range 6 {
			trace := make([]api.Letter, n)
			for i := range trace {
				trace[i] = api.Letter(chance.Intn(8))
			}
			some = append(some, trace)
		}
		if sameMeaning(t, allWords.grow(chance, chance.Intn(30), false, false), some) {
			asked++
		}
	}
	if asked < 1200 {
		t.Error("just", asked, "were asked")
	}
	all := traces(4, 4)
	for _, s := range []string{"P0 P1 Iff", "P0 P1 Until Not", "P0 Finally P1 Globally Iff", "Last Not P0 Imp", "P0 Weak P1 Next Iff", "P0 P1 Iff Step Star Last Dia Not", "P0 P1 Imp Globally Not Test Last P0 And Box", "P0 Step P1 Step Seq Star Over Dia Not Next", "P0 Step P1 Test Plus Star P0 P1 Iff Box P0 Finally Iff"} {
		if !sameMeaning(t, tokens(s), all) {
			t.Error(s, "was refused")
		}
	}
}

func TestOfAKernelFormulaIsItself(t *testing.T) {
	chance := rand.New(rand.NewSource(84))
	asked := 0
	for range 1500 {
		k := kernelWords.grow(chance, chance.Intn(120), false, false)
		got, err := kernel.Of(k)
		if must := term.Check(k); err != must {
			t.Fatal(told(k), err, must)
		}
		if err == api.OK {
			if n, err := kernel.Size(k); !slices.Equal(got, k) || n != len(k) || err != api.OK {
				t.Fatal(told(k), told(got), n, err)
			}
			asked++
		}
		l, err := kernel.Of(allWords.grow(chance, chance.Intn(20), false, false))
		if err == api.OK && term.Check(l) == api.OK {
			if again, err := kernel.Of(l); !slices.Equal(again, l) || err != api.OK {
				t.Fatal(told(l), told(again), err)
			}
		}
	}
	if asked < 1200 {
		t.Error("just", asked, "were asked")
	}
	refused(t, tokens("P0 Next*64"), api.ErrDeep)
	refused(t, tokens("True Next*2047"), api.ErrLong)
}

// Of an Iff this is not so: the negation of its kernel formula is that of an Or.
func TestNegIsOfOfANot(t *testing.T) {
	chance := rand.New(rand.NewSource(85))
	for range 1500 {
		l := noIffs.grow(chance, chance.Intn(25), false, false)
		k, err := kernel.Of(l)
		if err != api.OK {
			t.Fatal(told(l), err)
		}
		not, err := kernel.Of(append(slices.Clone(l), tokens("Not")...))
		got, errNeg := kernel.Neg(k)
		if err != api.OK || errNeg != api.OK || !slices.Equal(got, not) {
			t.Fatal(told(l), told(not), err, told(got), errNeg)
		}
		x, _ := whole(k)
		if bare, negated := x.outside(); len(got) != len(k)+bare-negated {
			t.Fatal(told(k), told(got), bare, negated)
		}
		if back, err := kernel.Neg(got); !slices.Equal(back, k) || err != api.OK {
			t.Fatal(told(k), told(back), err)
		}
	}
}

// P1, and the rules that hold everywhere

func TestCallsAreCalm(t *testing.T) {
	chance := rand.New(rand.NewSource(81))
	for range 30000 {
		l := make([]api.Tok, chance.Intn(10))
		for i := range l {
			l[i] = api.Tok{Op: api.Op(chance.Intn(25))}
			if chance.Intn(40) == 0 {
				l[i] = api.Tok{Op: api.Op(chance.Intn(256)), P: uint8(chance.Intn(256))}
			}
		}
		ask(t, l)
	}
	for op := range 256 {
		for _, n := range []int{1, 2, 64, 512, 513, 2048, 2049} {
			ask(t, slices.Repeat([]api.Tok{{Op: api.Op(op)}}, n))
		}
	}
	refused(t, make([]api.Tok, 1000000), api.ErrLong)
	refused(t, nil, api.ErrForm)
	noKernel(t, nil, api.ErrForm)
}

// spoil writes over a list, and over its spare room.
func spoil(l []api.Tok) {
	l = l[:cap(l)]
	for i := range l {
		l[i] = api.Tok{Op: 99, P: 99}
	}
}

func TestNothingHandedInIsChangedOrReadBehindItsEnd(t *testing.T) {
	room := tokens("P0 P1 Until P0 Not P0 Step Star P1 Over And Dia And And P0 Not Test Star P1 P0 Iff Box Not")
	was := slices.Clone(room)
	for i := range room {
		for j := i; j <= len(room); j++ {
			// The spare room has tokens that would change what is told.
			ask(t, room[i:j])
			a, errA := kernel.Of(room[i:j])
			b, errB := kernel.Of(slices.Clip(slices.Clone(room[i:j])))
			c, errC := kernel.Neg(room[i:j])
			d, errD := kernel.Neg(slices.Clip(slices.Clone(room[i:j])))
			if !slices.Equal(a, b) || errA != errB || !slices.Equal(c, d) || errC != errD {
				t.Fatal(i, j, told(a), told(b), told(c), told(d))
			}
			spoil(a)
			spoil(c)
			if !slices.Equal(room, was) {
				t.Fatal(i, j, told(room))
			}
		}
	}
}

func TestAnswersAreNewMemory(t *testing.T) {
	for _, s := range []string{"P0", "P0 Not", "True", "P0 P1 And", "P0 Step Star P1 Dia", "More False Weak And", "P0 P1 Until P0 Next Or"} {
		l := tokens(s)
		for range 3 {
			k, errK := kernel.Of(l)
			other, _ := kernel.Of(l)
			not, errNot := kernel.Neg(l)
			otherNot, _ := kernel.Neg(l)
			if told(k) != s || errK != api.OK || errNot != api.OK || told(l) != s {
				t.Fatal(s, told(k), told(not), told(l))
			}
			wasNot := told(otherNot)
			spoil(k)
			spoil(not)
			if told(other) != s || told(otherNot) != wasNot || told(l) != s {
				t.Fatal(s, "answers share memory:", told(other), told(otherNot), told(l))
			}
			// What was handed in may change behind the call.
			spoil(l)
			if told(other) != s || told(otherNot) != wasNot {
				t.Fatal(s, "answers share memory with what was handed in:", told(other), told(otherNot))
			}
			l = tokens(s)
		}
	}
}

func TestAnswersHangOnArgumentsAlone(t *testing.T) {
	for range 3 {
		of(t, "P0 Finally Not", "False P0 Not Release")
		neg(t, "P0 Step P1 Dia", "P0 Step P1 Not Box")
		refused(t, tokens("P0 P1"), api.ErrForm)
		noKernel(t, tokens("Last"), api.ErrForm)
		tooLong(t, leftIffs(20))
	}
	done := make(chan string)
	l := leftIffs(6)
	for range 8 {
		go func() {
			k, err := kernel.Of(l)
			not, errNot := kernel.Neg(k)
			done <- fmt.Sprint(len(k), err, len(not), errNot, kernel.Check(k))
		}()
	}
	for range 8 {
		if got := <-done; got != fmt.Sprint(474, api.OK, 474, api.OK, api.OK) {
			t.Error(got)
		}
	}
}
