package term_test

import (
	"math"
	"math/rand"
	"slices"
	"strconv"
	"strings"
	"testing"

	"rejoinder/api"
	"rejoinder/term"
)

// The tests write tokens as words, and read them from the back, as trees: the program reads them from the front.

// table is the chapter's, by Op: what a token takes (f: a formula, p: a plain one, w: a path), and what it puts.
var table = [...]struct{ word, takes, puts string }{
	{"true", "", "f"}, {"false", "", "f"}, {"Prop", "", "f"}, {"last", "", "f"}, {"more", "", "f"}, {"over", "", "f"},
	{"Not", "f", "f"}, {"X", "f", "f"}, {"N", "f", "f"}, {"F", "f", "f"}, {"G", "f", "f"},
	{"And", "ff", "f"}, {"Or", "ff", "f"}, {"Imp", "ff", "f"}, {"Iff", "ff", "f"}, {"U", "ff", "f"}, {"R", "ff", "f"},
	{"Dia", "wf", "f"}, {"Box", "wf", "f"},
	{"Step", "p", "w"}, {"Test", "f", "w"}, {"Plus", "ww", "w"}, {"Seq", "ww", "w"}, {"Star", "w", "w"},
}

const plainWords = " true false Prop Not And Or Imp Iff "

// toks reads words, of which P0 to P9 are propositions, and of which one may be said so many times: Not*63.
func toks(s string) []api.Tok {
	var l []api.Tok
	for _, word := range strings.Fields(s) {
		word, times, found := strings.Cut(word, "*")
		n := 1
		if found {
			n, _ = strconv.Atoi(times)
		}
		l = append(l, slices.Repeat([]api.Tok{tok(word)}, n)...)
	}
	return l
}

func tok(word string) api.Tok {
	if word[0] == 'P' && len(word) == 2 {
		return api.Tok{Op: api.Prop, P: word[1] - '0'}
	}
	for op, row := range table {
		if row.word == word {
			return api.Tok{Op: api.Op(op)}
		}
	}
	panic("no token: " + word)
}

// wrong lists tokens that may not be.
func wrong() []api.Tok {
	l := []api.Tok{{Op: api.Prop, P: 8}, {Op: api.Prop, P: 9}, {Op: api.Prop, P: 64}, {Op: api.Prop, P: 255}, {Op: 24, P: 0}, {Op: 25, P: 1}, {Op: 128}, {Op: 255, P: 255}}
	for op := api.True; op <= api.Star; op++ {
		if op != api.Prop {
			l = append(l, api.Tok{Op: op, P: 1}, api.Tok{Op: op, P: 7}, api.Tok{Op: op, P: 128})
		}
	}
	return l
}

// tree is a part: a token, and what it takes.
type tree struct {
	tok  api.Tok
	kids []tree
}

// fromBack reads the part of the last token, and tells what stands ahead of it.
func fromBack(l []api.Tok) (t tree, ahead []api.Tok, ok bool) {
	if len(l) == 0 {
		return tree{}, nil, false
	}
	t = tree{tok: l[len(l)-1]}
	if int(t.tok.Op) >= len(table) || t.tok.Op == api.Prop && t.tok.P > 7 || t.tok.Op != api.Prop && t.tok.P != 0 {
		return tree{}, nil, false
	}
	takes := table[t.tok.Op].takes
	t.kids = make([]tree, len(takes))
	ahead = l[:len(l)-1]
	for i := len(takes) - 1; i >= 0; i-- {
		if t.kids[i], ahead, ok = fromBack(ahead); !ok {
			return tree{}, nil, false
		}
		puts := t.kids[i].puts()
		if takes[i] == 'w' != (puts == "w") || takes[i] == 'p' && !t.kids[i].plain() {
			return tree{}, nil, false
		}
	}
	return t, ahead, true
}

func (t tree) puts() string { return table[t.tok.Op].puts }

func (t tree) plain() bool {
	is := strings.Contains(plainWords, " "+table[t.tok.Op].word+" ")
	for _, kid := range t.kids {
		is = is && kid.plain()
	}
	return is
}

func (t tree) depth() int {
	deep := 0
	for _, kid := range t.kids {
		deep = max(deep, kid.depth())
	}
	return deep + 1
}

// parts lists the tree and all that is in it, as their tokens stand.
func (t tree) parts() []tree {
	var all []tree
	for _, kid := range t.kids {
		all = append(all, kid.parts()...)
	}
	return append(all, t)
}

func (t tree) tokens() []api.Tok {
	var l []api.Tok
	for _, part := range t.parts() {
		l = append(l, part.tok)
	}
	return l
}

// want tells what Check or Path (if puts is f or w), or the others (if it is "") must answer.
func want(l []api.Tok, puts string) api.Errno {
	if len(l) > 512 {
		return api.ErrLong
	}
	t, ahead, ok := fromBack(l)
	switch {
	case !ok || len(ahead) > 0 || puts != "" && t.puts() != puts:
		return api.ErrForm
	case t.depth() > 64:
		return api.ErrDeep
	}
	return api.OK
}

// alphabet is every token that may be (P0, P3 and P7 for all propositions), and some that may not.
func alphabet() []api.Tok {
	l := toks("P3 P7")
	for op := range table {
		l = append(l, api.Tok{Op: api.Op(op)})
	}
	return append(l, api.Tok{Op: api.Prop, P: 8}, api.Tok{Op: api.True, P: 3}, api.Tok{Op: api.Star, P: 1}, api.Tok{Op: 24})
}

// lists lists all lists of so many tokens of an alphabet.
func lists(alphabet []api.Tok, n int) [][]api.Tok {
	all := [][]api.Tok{nil}
	for range n {
		var longer [][]api.Tok
		for _, l := range all {
			for _, x := range alphabet {
				longer = append(longer, append(slices.Clone(l), x))
			}
		}
		all = longer
	}
	return all
}

// everyShort lists all lists of up to 3 tokens, and those of 4 and 5 tokens of fewer.
func everyShort() [][]api.Tok {
	var all [][]api.Tok
	for n := range 4 {
		all = append(all, lists(alphabet(), n)...)
	}
	all = append(all, lists(toks("P0 last Not X Imp U Dia Box Step Test Plus Star"), 4)...)
	return append(all, lists(toks("P1 more And Dia Step Test Seq"), 5)...)
}

// grow makes a part of at most so many levels by chance.
func grow(chance *rand.Rand, puts byte, levels int) tree {
	for {
		op := api.Op(chance.Intn(len(table)))
		row := table[op]
		if row.puts == "w" != (puts == 'w') || puts == 'p' && !strings.Contains(plainWords, " "+row.word+" ") {
			continue
		}
		if levels == 1 && puts == 'w' {
			return tree{tok: api.Tok{Op: api.Step}, kids: []tree{{tok: api.Tok{}}}}
		}
		if levels == 1 && row.takes != "" {
			continue
		}
		t := tree{tok: api.Tok{Op: op}}
		if op == api.Prop {
			t.tok.P = uint8(chance.Intn(8))
		}
		for i := range len(row.takes) {
			kid := row.takes[i]
			if puts == 'p' {
				kid = 'p'
			}
			t.kids = append(t.kids, grow(chance, kid, levels-1))
		}
		return t
	}
}

// someGrown lists formulas and paths that may be, of some size.
func someGrown() [][]api.Tok {
	chance := rand.New(rand.NewSource(3))
	var all [][]api.Tok
	for i := range 900 {
		l := grow(chance, "fwp"[i%3], 2+i%9).tokens()
		if len(l) <= 512 {
			all = append(all, l)
		}
	}
	return all
}

// balanced is a formula of an even number of tokens, nested no deeper than it must be.
func balanced(n int) []api.Tok {
	level := [][]api.Tok{toks("P0 Not")}
	for range n/2 - 1 {
		level = append(level, toks("P1"))
	}
	for len(level) > 1 {
		var up [][]api.Tok
		for i := 0; i+1 < len(level); i += 2 {
			up = append(up, slices.Concat(level[i], level[i+1], toks("And")))
		}
		if len(level)%2 == 1 {
			up = append(up, level[len(level)-1])
		}
		level = up
	}
	return level[0]
}

// chain is a formula of the depth d that goes down on the one side or the other, by operators in turn.
func chain(d int, words ...string) []api.Tok {
	l := toks("P0")
	for i := range d - 1 {
		switch words[i%len(words)] {
		case "left":
			l = slices.Concat(l, toks("P1 Or"))
		case "right":
			l = slices.Concat(toks("P1"), l, toks("U"))
		case "behind":
			l = slices.Concat(toks("P1 Test"), l, toks("Box"))
		default:
			l = slices.Concat(l, toks(words[i%len(words)]))
		}
	}
	return l
}

func same(t *testing.T, what string, l any, got, want any) {
	t.Helper()
	if got != want {
		t.Fatalf("%s(%v) = %v, not %v", what, l, got, want)
	}
}

// P3.1

func TestCheckAndPathOfAllShortLists(t *testing.T) {
	for _, l := range everyShort() {
		same(t, "Check", l, term.Check(l), want(l, "f"))
		same(t, "Path", l, term.Path(l), want(l, "w"))
	}
}

func TestCheckAndPathOfGrownParts(t *testing.T) {
	for _, l := range someGrown() {
		same(t, "Check", l, term.Check(l), want(l, "f"))
		same(t, "Path", l, term.Path(l), want(l, "w"))
		same(t, "want", l, want(l, ""), api.OK)
		for _, cut := range [][]api.Tok{l[1:], l[:len(l)-1], slices.Concat(l, l)} {
			same(t, "Check", cut, term.Check(cut), want(cut, "f"))
			same(t, "Path", cut, term.Path(cut), want(cut, "w"))
		}
	}
}

func TestCheckExamples(t *testing.T) {
	for s, w := range map[string]api.Errno{
		"P0 P1 U": api.OK, "P0": api.OK, "": api.ErrForm,
		"P0 U": api.ErrForm, "P0 P1": api.ErrForm, "P0 Step": api.ErrForm,
		"P0 Step Star P1 Dia": api.OK, "P0 X Step P1 Dia": api.ErrForm,
	} {
		same(t, "Check", s, term.Check(toks(s)), w)
	}
	same(t, "Path", "P0 Step Star", term.Path(toks("P0 Step Star")), api.OK)
	same(t, "Check", "True, 3", term.Check([]api.Tok{{Op: api.True, P: 3}}), api.ErrForm)
	same(t, "Check", "24", term.Check([]api.Tok{{Op: 24}}), api.ErrForm)
}

func TestEachOpWithTooLittleAndOfTheWrongKind(t *testing.T) {
	a := map[byte]string{'f': "P0 X", 'p': "P0 Not", 'w': "P0 Step Star"}
	other := map[byte]string{'f': "P0 Step", 'p': "P0 Step", 'w': "P0"}
	for op, row := range table {
		var right []string
		for i := range len(row.takes) {
			right = append(right, a[row.takes[i]])
		}
		ask := func(w api.Errno, pieces []string) {
			t.Helper()
			l := append(toks(strings.Join(pieces, " ")), api.Tok{Op: api.Op(op)})
			formula, path := w, api.ErrForm
			if row.puts == "w" {
				formula, path = api.ErrForm, w
			}
			same(t, "Check", l, term.Check(l), formula)
			same(t, "Path", l, term.Path(l), path)
		}
		ask(api.OK, right)
		ask(api.ErrForm, append(slices.Clone(right), "P0"))
		for i := range right {
			ask(api.ErrForm, slices.Delete(slices.Clone(right), i, i+1))
			bad := slices.Clone(right)
			bad[i] = other[row.takes[i]]
			ask(api.ErrForm, bad)
		}
	}
}

func TestStepTakesPlainFormulasAlone(t *testing.T) {
	for op, row := range table {
		var pieces []string
		for _, kind := range row.takes {
			pieces = append(pieces, map[rune]string{'f': "P2", 'p': "P2", 'w': "P2 Step"}[kind])
		}
		if row.puts == "w" {
			continue
		}
		l := append(toks(strings.Join(pieces, " ")), api.Tok{Op: api.Op(op)})
		plain := api.ErrForm
		if strings.Contains(plainWords, " "+row.word+" ") {
			plain = api.OK
		}
		same(t, "Path", l, term.Path(append(l, api.Tok{Op: api.Step})), plain)
		deeper := slices.Concat(toks("P1"), l, toks("Not Imp Step"))
		same(t, "Path", deeper, term.Path(deeper), plain)
		earlier := slices.Concat(l, toks("Not P1 Iff Step"))
		same(t, "Path", earlier, term.Path(earlier), plain)
		same(t, "Path", l, term.Path(append(l, api.Tok{Op: api.Test})), api.OK)
	}
}

func TestTokensThatMayNotBe(t *testing.T) {
	for _, bad := range wrong() {
		for _, around := range [][2]string{{"", ""}, {"P0", ""}, {"P0 P1", ""}, {"P0 Step", ""}, {"P0 Step P1", ""}, {"", "Not"}, {"P0", "And"}, {"", "Step"}, {"P0 Step P1 Step", ""}} {
			l := slices.Concat(toks(around[0]), []api.Tok{bad}, toks(around[1]))
			same(t, "Check", l, term.Check(l), api.ErrForm)
			same(t, "Path", l, term.Path(l), api.ErrForm)
			_, err := term.Props(l)
			same(t, "Props", l, err, api.ErrForm)
		}
	}
	for p := range uint8(8) {
		same(t, "Check", p, term.Check([]api.Tok{{Op: api.Prop, P: p}}), api.OK)
	}
}

func TestHowLongAndHowDeep(t *testing.T) {
	full := balanced(512)
	same(t, "len", "", len(full), 512)
	fullPath := append(balanced(510), toks("Step Star")...)
	for _, x := range []struct {
		l             []api.Tok
		formula, path api.Errno
	}{
		{full, api.OK, api.ErrForm},
		{append(slices.Clone(full), toks("Not")...), api.ErrLong, api.ErrLong},
		{append(slices.Clone(full), toks("Step")...), api.ErrLong, api.ErrLong},
		{fullPath, api.ErrForm, api.OK},
		{append(slices.Clone(fullPath), toks("Star")...), api.ErrLong, api.ErrLong},
		{toks("P0*513"), api.ErrLong, api.ErrLong},
		{make([]api.Tok, 5000), api.ErrLong, api.ErrLong},
		{toks("P0*512"), api.ErrForm, api.ErrForm},
		{toks("P0 Not*63"), api.OK, api.ErrForm},
		{toks("P0 Not*64"), api.ErrDeep, api.ErrForm},
		{toks("P0 Not*511"), api.ErrDeep, api.ErrForm},
		{toks("P0 Not*512"), api.ErrLong, api.ErrLong},
		{toks("P0 Not*100 P1"), api.ErrForm, api.ErrForm},
		{toks("P0 Not*100 U"), api.ErrForm, api.ErrForm},
		{toks("P0 Not*100 P1 And"), api.ErrDeep, api.ErrForm},
		{toks("P1 P0 Not*63 And"), api.ErrDeep, api.ErrForm},
		{toks("P1 P0 Not*62 And"), api.OK, api.ErrForm},
		{toks("P0 Step Star*62"), api.ErrForm, api.OK},
		{toks("P0 Step Star*63"), api.ErrForm, api.ErrDeep},
		{toks("P0 Step Star*62 P0 Dia"), api.ErrDeep, api.ErrForm},
		{toks("P0 Step Star*61 P0 Dia"), api.OK, api.ErrForm},
		{toks("P0 X*63 Step"), api.ErrForm, api.ErrForm},
		{toks("P0 X*63 Test"), api.ErrForm, api.ErrDeep},
	} {
		same(t, "Check", x.l, term.Check(x.l), x.formula)
		same(t, "Path", x.l, term.Path(x.l), x.path)
	}
}

func TestDepthGoesByEachWay(t *testing.T) {
	ways := [][]string{{"Not"}, {"X"}, {"left"}, {"right"}, {"Not", "behind"}, {"left", "right"}, {"G", "behind", "left", "N", "right", "F"}}
	for _, words := range ways {
		same(t, "Check", words, term.Check(chain(64, words...)), api.OK)
		same(t, "Check", words, term.Check(chain(65, words...)), api.ErrDeep)
	}
	path := toks("P0 Step")
	for i := range 62 {
		if i%2 == 0 {
			path = slices.Concat(path, toks("P1 Step Seq"))
		} else {
			path = slices.Concat(toks("P1 Test"), path, toks("Plus"))
		}
	}
	same(t, "Path", path, term.Path(path), api.OK)
	same(t, "Path", path, term.Path(append(path, toks("Star")...)), api.ErrDeep)
}

// P3.2

func TestBlocksDepthsAndProps(t *testing.T) {
	for _, l := range append(everyShort(), someGrown()...) {
		w := want(l, "")
		blocks, errBlocks := term.Blocks(l)
		depths, errDepths := term.Depths(l)
		props, errProps := term.Props(l)
		same(t, "Blocks", l, errBlocks, w)
		same(t, "Depths", l, errDepths, w)
		same(t, "Props", l, errProps, w)
		if w != api.OK {
			if len(blocks) > 0 || len(depths) > 0 || props != 0 {
				t.Fatal(l, "is refused, but answered", blocks, depths, props)
			}
			continue
		}
		whole, _, _ := fromBack(l)
		var begins, deep []int
		met := 0
		for i, part := range whole.parts() {
			begins = append(begins, i+1-len(part.tokens()))
			deep = append(deep, part.depth())
			if part.tok.Op == api.Prop {
				met |= 1 << part.tok.P
			}
		}
		if !slices.Equal(blocks, begins) || !slices.Equal(depths, deep) || int(props) != met {
			t.Fatal(l, "Blocks, Depths, Props:", blocks, depths, props, "not", begins, deep, met)
		}
	}
}

func TestPartsExamples(t *testing.T) {
	if b, err := term.Blocks(toks("P0 Step Star P1 Dia")); err != api.OK || !slices.Equal(b, []int{0, 0, 0, 3, 0}) {
		t.Error(b, err)
	}
	if d, err := term.Depths(toks("P0 P1 Not And")); err != api.OK || !slices.Equal(d, []int{1, 1, 2, 3}) {
		t.Error(d, err)
	}
	if p, err := term.Props(toks("P0 Step P3 Box")); err != api.OK || p != 9 {
		t.Error(p, err)
	}
}

func TestPropsTellsEachProposition(t *testing.T) {
	for set := range 256 {
		l := toks("true")
		for p := range uint8(8) {
			if set>>p&1 == 1 {
				l = slices.Concat(l, []api.Tok{{Op: api.Prop, P: p}}, toks("Or"))
			}
		}
		got, err := term.Props(l)
		same(t, "Props", l, err, api.OK)
		same(t, "Props", l, int(got), set)
	}
}

// refuseAll asks what is of formulas and of paths alike.
func refuseAll(t *testing.T, l []api.Tok, w api.Errno) {
	t.Helper()
	b, errB := term.Blocks(l)
	d, errD := term.Depths(l)
	p, errP := term.Props(l)
	made, errPut := term.Put(l, 0, toks("P0"))
	if errB != w || errD != w || errP != w || errPut != w || len(b)+len(d)+len(made)+int(p) > 0 {
		t.Errorf("%d tokens: %v %v %v %v, not %v; %v %v %v %v", len(l), errB, errD, errP, errPut, w, b, d, p, made)
	}
}

func TestPartsRefusals(t *testing.T) {
	refuseAll(t, nil, api.ErrForm)
	refuseAll(t, []api.Tok{}, api.ErrForm)
	refuseAll(t, toks("P0*513"), api.ErrLong)
	refuseAll(t, append(balanced(512), toks("Not")...), api.ErrLong)
	refuseAll(t, toks("P0 P1"), api.ErrForm)
	refuseAll(t, toks("P0*512"), api.ErrForm)
	refuseAll(t, toks("P0 Not*90 P1"), api.ErrForm)
	refuseAll(t, toks("P0 Not*64"), api.ErrDeep)
	refuseAll(t, toks("P0 Step Star*63"), api.ErrDeep)
	refuseAll(t, []api.Tok{{Op: 24}}, api.ErrForm)
	for _, l := range [][]api.Tok{toks("P0 Not*63"), toks("P0 Step Star*62"), balanced(512)} {
		d, err := term.Depths(l)
		whole, _, _ := fromBack(l)
		if err != api.OK || d[len(d)-1] != whole.depth() {
			t.Error(d, err)
		}
	}
}

// P3.3

func TestPlain(t *testing.T) {
	for _, l := range append(everyShort(), someGrown()...) {
		is, err := term.Plain(l)
		same(t, "Plain", l, err, want(l, "f"))
		whole, _, _ := fromBack(l)
		same(t, "Plain", l, is, err == api.OK && whole.plain())
	}
}

func TestPlainRefusals(t *testing.T) {
	for _, x := range []struct {
		l  []api.Tok
		is bool
		w  api.Errno
	}{
		{nil, false, api.ErrForm},
		{toks("P0 Step"), false, api.ErrForm},
		{toks("P0 Not*63"), true, api.OK},
		{toks("P0 Not*64"), false, api.ErrDeep},
		{toks("P0 Step Star*63"), false, api.ErrForm},
		{balanced(512), true, api.OK},
		{append(balanced(512), toks("Not")...), false, api.ErrLong},
		{toks("P0 last And"), false, api.OK},
		{toks("last P0 And"), false, api.OK},
		{toks("P0 Step P1 Dia"), false, api.OK},
	} {
		is, err := term.Plain(x.l)
		same(t, "Plain", x.l, err, x.w)
		same(t, "Plain", x.l, is, x.is)
	}
}

// P3.4

// wantBuilt tells what Un and Bin must answer, by the words of the promise.
func wantBuilt(op api.Op, parts ...[]api.Tok) ([]api.Tok, api.Errno) {
	if int(op) >= len(table) || len(table[op].takes) != len(parts) {
		return nil, api.ErrArg
	}
	var made []api.Tok
	for i, part := range parts {
		puts := strings.Replace(table[op].takes[i:i+1], "p", "f", 1)
		if err := want(part, puts); err != api.OK {
			return nil, err
		}
		made = append(made, part...)
	}
	made = append(made, api.Tok{Op: op})
	if err := want(made, table[op].puts); err != api.OK {
		return nil, err
	}
	return made, api.OK
}

// someParts lists formulas, paths, and what is neither, the edges of each limit among them.
func someParts() [][]api.Tok {
	var l [][]api.Tok
	for _, s := range []string{"", "P0", "P3 X", "last", "P0 P1", "P0 Step", "P0 Test Star", "P1 P2 Iff", "P0 U",
		"P0 Not*62", "P0 Not*63", "P0 Not*64", "P0 X*62", "P0 X*63", "P0 X*64", "P0 Step Star*61", "P0 Step Star*62", "P0 Step Star*63",
		"P0*513", "P0*300", "P0 Not*600", "P0 P9 And", "true Step Star"} {
		l = append(l, toks(s))
	}
	nextTo := balanced(510)
	l = append(l, balanced(256), balanced(254), append(balanced(254), toks("X")...), balanced(512),
		append(slices.Clone(nextTo), toks("X")...), append(slices.Clone(nextTo), toks("Not")...), append(slices.Clone(nextTo), toks("X X")...),
		append(slices.Clone(nextTo), toks("Step")...), append(slices.Clone(nextTo), toks("Step Star")...), append(balanced(254), toks("Step")...),
		[]api.Tok{{Op: api.True, P: 1}}, []api.Tok{{Op: 24}})
	return l
}

func TestUn(t *testing.T) {
	for op := range 256 {
		for _, a := range someParts() {
			got, err := term.Un(api.Op(op), a)
			made, w := wantBuilt(api.Op(op), a)
			if err != w || !slices.Equal(got, made) {
				t.Fatalf("Un(%d, %v) = %v %v, not %v %v", op, a, got, err, made, w)
			}
		}
	}
}

func TestBin(t *testing.T) {
	for op := range 30 {
		for _, a := range someParts() {
			for _, b := range someParts() {
				got, err := term.Bin(api.Op(op), a, b)
				made, w := wantBuilt(api.Op(op), a, b)
				if err != w || !slices.Equal(got, made) {
					t.Fatalf("Bin(%d, %v, %v) = %v %v, not %v %v", op, a, b, got, err, made, w)
				}
			}
		}
	}
	for op := 24; op < 256; op++ {
		if got, err := term.Bin(api.Op(op), toks("P0"), toks("P1")); err != api.ErrArg || len(got) > 0 {
			t.Fatal(op, got, err)
		}
	}
}

func TestBuildingExamplesAndOrder(t *testing.T) {
	un := func(op api.Op, a string, w api.Errno) {
		t.Helper()
		_, err := term.Un(op, toks(a))
		same(t, "Un", a, err, w)
	}
	bin := func(op api.Op, a, b string, w api.Errno) {
		t.Helper()
		_, err := term.Bin(op, toks(a), toks(b))
		same(t, "Bin", a+" and "+b, err, w)
	}
	if l, err := term.Bin(api.Until, toks("P0"), toks("P1")); err != api.OK || !slices.Equal(l, toks("P0 P1 U")) {
		t.Error(l, err)
	}
	bin(api.Dia, "P0", "P1", api.ErrForm)
	un(api.And, "P0", api.ErrArg)
	un(api.Dia, "P0*600", api.ErrArg)
	un(api.Prop, "", api.ErrArg)
	un(api.Not, "P0 X", api.OK)
	un(api.Not, "P0 Step", api.ErrForm)
	un(api.Star, "P0", api.ErrForm)
	un(api.Star, "P0 X*64", api.ErrForm)
	un(api.Step, "P0 X", api.ErrForm)
	un(api.Step, "P0 X*63", api.ErrForm)
	un(api.Step, "P0 X*64", api.ErrDeep)
	un(api.Step, "P0 Not*62", api.OK)
	un(api.Step, "P0 Not*63", api.ErrDeep)
	un(api.Step, "P0 Step Star*64", api.ErrForm)
	un(api.Test, "P0 X", api.OK)
	bin(api.Not, "P0", "P1", api.ErrArg)
	bin(api.Not, "P0*600", "", api.ErrArg)
	bin(api.And, "P0 Not*64", "", api.ErrDeep)
	bin(api.And, "", "P0 Not*64", api.ErrForm)
	bin(api.And, "P0*513", "P0 Not*64", api.ErrLong)
	bin(api.And, "P0 Not*64", "P0*513", api.ErrDeep)
	bin(api.Seq, "P0 Step", "P0", api.ErrForm)
	bin(api.Box, "P0 Step", "P0 Step", api.ErrForm)
	bin(api.Box, "P0", "P0*513", api.ErrForm)
	bin(api.Or, "P0 X", "P0 Not", api.OK)
}

// P3.5

// with is a tree in which another one stands in the place of the part i.
func (t tree) with(i int, g tree) tree {
	if i == len(t.parts())-1 {
		return g
	}
	made := tree{tok: t.tok}
	for _, kid := range t.kids {
		n := len(kid.parts())
		if 0 <= i && i < n {
			kid = kid.with(i, g)
		}
		i -= n
		made.kids = append(made.kids, kid)
	}
	return made
}

// wantPut tells what Put must answer, by the words of the promise.
func wantPut(l []api.Tok, i int, g []api.Tok) ([]api.Tok, api.Errno) {
	if err := want(l, ""); err != api.OK {
		return nil, err
	}
	if i < 0 || i >= len(l) {
		return nil, api.ErrArg
	}
	whole, _, _ := fromBack(l)
	if err := want(g, whole.parts()[i].puts()); err != api.OK {
		return nil, err
	}
	piece, _, _ := fromBack(g)
	made := whole.with(i, piece).tokens()
	if err := want(made, ""); err != api.OK {
		return nil, err
	}
	return made, api.OK
}

func askPut(t *testing.T, l []api.Tok, i int, g []api.Tok) {
	t.Helper()
	got, err := term.Put(l, i, g)
	made, w := wantPut(l, i, g)
	if err != w || !slices.Equal(got, made) {
		t.Fatalf("Put(%v, %d, %v) = %v %v, not %v %v", l, i, g, got, err, made, w)
	}
}

func TestPutOfShortLists(t *testing.T) {
	pieces := append(someParts()[:20:20], toks("P7"), toks("P7 X"), toks("P7 Not P6 Or"), toks("P0 P1"), []api.Tok{{Op: 77}})
	for _, l := range append(lists(toks("P0 last Not Imp X Dia Step Star Seq"), 3), lists(toks("P0 Not Imp X Dia Step Test"), 4)...) {
		for i := -1; i <= len(l); i++ {
			for _, g := range pieces {
				askPut(t, l, i, g)
			}
		}
	}
}

func TestPutOfGrownParts(t *testing.T) {
	grown := someGrown()
	for k, l := range grown {
		for i := 0; i < len(l); i += 1 + len(l)/7 {
			askPut(t, l, i, grown[(7*k+i)%len(grown)])
			askPut(t, l, len(l)-1-i, grown[(11*k+i)%len(grown)])
		}
	}
}

func TestPutExampleAndOrder(t *testing.T) {
	if l, err := term.Put(toks("P0 P1 And"), 1, toks("P0 Not")); err != api.OK || !slices.Equal(l, toks("P0 P0 Not And")) {
		t.Error(l, err)
	}
	for _, x := range []struct {
		l string
		i int
		g string
		w api.Errno
	}{
		{"P0*513", -1, "", api.ErrLong},
		{"P0 P1", -1, "P0*513", api.ErrForm},
		{"P0 Not*64", 99, "", api.ErrDeep},
		{"", 0, "P0", api.ErrForm},
		{"P0", -1, "P0*513", api.ErrArg},
		{"P0", 1, "", api.ErrArg},
		{"P0 X", 2, "P0", api.ErrArg},
		{"P0", math.MaxInt, "P1", api.ErrArg},
		{"P0", math.MinInt, "P1", api.ErrArg},
		{"P0", 1 << 32, "P1", api.ErrArg},
		{"P0", 0, "P0*513", api.ErrLong},
		{"P0", 0, "P0 Not*64", api.ErrDeep},
		{"P0", 0, "P0 Step", api.ErrForm},
		{"P0 Step", 1, "P0", api.ErrForm},
		{"P0 Step", 1, "P0 Step Star*63", api.ErrDeep},
		{"P0 Step", 0, "P0 Step", api.ErrForm},
		{"P0 Step", 0, "P0 X", api.ErrForm},
		{"P0 Not Step P1 Dia", 0, "P0 X", api.ErrForm},
		{"P0 Not Step P1 Dia", 1, "P0 X*63", api.ErrForm},
		{"P0 Not Step P1 Dia", 3, "P0 X", api.OK},
		{"P0 Not Step P1 Dia", 2, "P0 X Test", api.OK},
		{"P0 Test P1 Dia", 0, "P0 X", api.OK},
		{"P0 Not*63", 0, "P1 Not", api.ErrDeep},
		{"P0 Not*63", 1, "P1 Not", api.OK},
		{"P0 Not*63", 63, "P1 X*63", api.OK},
	} {
		made, err := term.Put(toks(x.l), x.i, toks(x.g))
		same(t, "Put", x, err, x.w)
		same(t, "Put", x, len(made) == 0, err != api.OK)
		askPut(t, toks(x.l), x.i, toks(x.g))
	}
}

func TestPutUpToTheLimit(t *testing.T) {
	l := append(balanced(256), toks("P0 And")...)
	for _, x := range []struct {
		g []api.Tok
		n int
		w api.Errno
	}{
		{balanced(254), 511, api.OK},
		{append(balanced(254), toks("X")...), 512, api.OK},
		{balanced(256), 0, api.ErrLong},
		{balanced(512), 0, api.ErrLong},
	} {
		made, err := term.Put(l, 256, x.g)
		same(t, "Put", x.g, err, x.w)
		same(t, "Put", x.g, len(made), x.n)
	}
	if made, err := term.Put(l, len(l)-1, balanced(512)); err != api.OK || len(made) != 512 {
		t.Error(len(made), err)
	}
}

// P3.6

func TestBlocksAreParts(t *testing.T) {
	for _, l := range someGrown() {
		begins, err := term.Blocks(l)
		same(t, "Blocks", l, err, api.OK)
		depths, _ := term.Depths(l)
		for i, b := range begins {
			block := l[b : i+1]
			if formula, path := term.Check(block), term.Path(block); (formula == api.OK) == (path == api.OK) {
				t.Fatal(block, "is no part of its own:", formula, path)
			}
			for j, c := range begins {
				if j < i && !(j < b || b <= c) || depths[j] > depths[len(l)-1] {
					t.Fatal(l, "the blocks of", i, j, "begin at", b, c)
				}
			}
			if again, err := term.Put(l, i, block); err != api.OK || !slices.Equal(again, l) {
				t.Fatal("Put of its own block", i, "makes of", l, again, err)
			}
		}
		built, err := rebuild(l)
		if err != api.OK || !slices.Equal(built, l) {
			t.Fatal(l, "is built up as", built, err)
		}
	}
}

// rebuild puts a part together again from its blocks, by Un and Bin.
func rebuild(l []api.Tok) ([]api.Tok, api.Errno) {
	begins, err := term.Blocks(l)
	if err != api.OK || len(l) == 1 {
		return l, err
	}
	end := len(l) - 1
	right, err := rebuild(l[begins[end-1]:end])
	if err != api.OK {
		return nil, err
	}
	if begins[end-1] == 0 {
		return term.Un(l[end].Op, right)
	}
	left, err := rebuild(l[:begins[end-1]])
	if err != api.OK {
		return nil, err
	}
	return term.Bin(l[end].Op, left, right)
}

// P1, and the rules that hold everywhere

// roomy is a list with spare room that has tokens of another kind in it.
func roomy(l []api.Tok) []api.Tok {
	room := append(slices.Clone(l), slices.Repeat(toks("Star"), 40)...)
	return room[:len(l):len(room)]
}

func TestArgumentsAreNotChangedAndNotShared(t *testing.T) {
	texts := []string{"P0 P1 And", "P0 Step Star", "P0", "P0 X"}
	for _, x := range texts {
		for _, y := range texts {
			a, b := roomy(toks(x)), roomy(toks(y))
			wholeA, wholeB := slices.Clone(a[:cap(a)]), slices.Clone(b[:cap(b)])
			call := func() [][]api.Tok {
				term.Check(a)
				term.Path(a)
				term.Props(a)
				term.Plain(a)
				var made [][]api.Tok
				for op := range api.Op(25) {
					un, _ := term.Un(op, a)
					bin, _ := term.Bin(op, a, b)
					put, _ := term.Put(a, int(op), b)
					made = append(made, un, bin, put)
				}
				return made
			}
			first, second := call(), call()
			for k, l := range first {
				if !slices.Equal(l, second[k]) {
					t.Fatal("asked twice:", l, second[k])
				}
				for i := range l[:cap(l)] {
					l[:cap(l)][i] = api.Tok{Op: 99, P: 99}
				}
			}
			for k, l := range second {
				if slices.Contains(l[:cap(l)], api.Tok{Op: 99, P: 99}) {
					t.Fatal("answers share memory:", k, l)
				}
			}
			if !slices.Equal(a[:cap(a)], wholeA) || !slices.Equal(b[:cap(b)], wholeB) {
				t.Fatal(x, y, "were changed or shared:", a[:cap(a)], b[:cap(b)])
			}
		}
	}
}

func TestNumbersAreNewMemory(t *testing.T) {
	l := toks("P0 Step Star P1 Dia")
	b, _ := term.Blocks(l)
	d, _ := term.Depths(l)
	for _, list := range [][]int{b, d} {
		for i := range list[:cap(list)] {
			list[:cap(list)][i] = 77
		}
	}
	again, _ := term.Blocks(l)
	deep, _ := term.Depths(l)
	if !slices.Equal(again, []int{0, 0, 0, 3, 0}) || !slices.Equal(deep, []int{1, 2, 3, 1, 4}) || !slices.Equal(l, toks("P0 Step Star P1 Dia")) {
		t.Error(again, deep, l)
	}
}

func TestCallsAreCalm(t *testing.T) {
	chance := rand.New(rand.NewSource(30))
	for range 20000 {
		l := make([]api.Tok, chance.Intn(12))
		for i := range l {
			l[i] = api.Tok{Op: api.Op(chance.Intn(26))}
			if chance.Intn(9) == 0 {
				l[i].P = uint8(chance.Intn(256))
			}
		}
		same(t, "Check", l, term.Check(l), want(l, "f"))
		same(t, "Path", l, term.Path(l), want(l, "w"))
		_, err := term.Blocks(l)
		same(t, "Blocks", l, err, want(l, ""))
		askPut(t, l, chance.Intn(14)-1, l)
	}
}
