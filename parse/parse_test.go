package parse_test

import (
	"fmt"
	"math/rand"
	"slices"
	"strings"
	"testing"

	"rejoinder/api"
	"rejoinder/letter"
	"rejoinder/lexis"
	"rejoinder/parse"
	"rejoinder/term"
)

var pq = []string{"p", "q"}

var pqrs = []string{"p", "q", "r", "s"}

// opByName tells tokens as the document writes them.
var opByName = map[string]api.Op{
	"True": api.True, "False": api.False, "Last": api.Last, "Not": api.Not, "Next": api.Next, "Weak": api.Weak, "Finally": api.Finally, "Globally": api.Globally,
	"And": api.And, "Or": api.Or, "Imp": api.Imp, "Iff": api.Iff, "Until": api.Until, "Release": api.Release, "Dia": api.Dia, "Box": api.Box,
	"Step": api.Step, "Test": api.Test, "Plus": api.Plus, "Seq": api.Seq, "Star": api.Star,
}

func tokens(s string) []api.Tok {
	var l []api.Tok
	for _, w := range strings.Fields(s) {
		if op, is := opByName[w]; is {
			l = append(l, api.Tok{Op: op})
			continue
		}
		if len(w) != 2 || w[0] != 'P' {
			panic("no token: " + w)
		}
		l = append(l, api.Tok{Op: api.Prop, P: w[1] - '0'})
	}
	return l
}

// The tests work out the tokens by cutting words at the weakest operator outside brackets, and the first word with which it can't go on by a machine that keeps open brackets.

// level is a line of a table with operators between: weakest first.
type level struct {
	ops   map[string]api.Op
	right bool
}

var formulaLevels = []level{
	{ops: map[string]api.Op{"<->": api.Iff}},
	{ops: map[string]api.Op{"->": api.Imp}, right: true},
	{ops: map[string]api.Op{"|": api.Or}},
	{ops: map[string]api.Op{"&": api.And}},
	{ops: map[string]api.Op{"U": api.Until, "R": api.Release}, right: true},
}

var pathLevels = []level{
	{ops: map[string]api.Op{"+": api.Plus}},
	{ops: map[string]api.Op{";": api.Seq}},
}

var prefixes = map[string]api.Op{"!": api.Not, "X": api.Next, "N": api.Weak, "F": api.Finally, "G": api.Globally}

// nesting tells of each word how many brackets are open behind it.
func nesting(w []string) []int {
	open := 0
	var l []int
	for _, s := range w {
		switch s {
		case "(", "[", "{", "<":
			open++
		case ")", "]", "}", ">":
			open--
		}
		l = append(l, open)
	}
	return l
}

// cut tells where words part at the weakest operator that stands outside brackets.
func cut(w []string, levels []level) (at int, op api.Op, is bool) {
	nest := nesting(w)
	for _, line := range levels {
		at = -1
		for i, s := range w {
			if _, is := line.ops[s]; is && nest[i] == 0 && (at < 0 || !line.right) {
				at = i
			}
		}
		if at >= 0 {
			return at, line.ops[w[at]], true
		}
	}
	return 0, 0, false
}

// both tells the tokens of two parts, and an operator's.
func both(a []api.Tok, isA bool, b []api.Tok, isB bool, op api.Op) ([]api.Tok, bool) {
	return slices.Concat(a, b, []api.Tok{{Op: op}}), isA && isB
}

func formulaOf(names, w []string) ([]api.Tok, bool) {
	if at, op, is := cut(w, formulaLevels); is {
		a, isA := formulaOf(names, w[:at])
		b, isB := formulaOf(names, w[at+1:])
		return both(a, isA, b, isB, op)
	}
	return tightOf(names, w)
}

// tightOf is formulaOf of what may stand behind !.
func tightOf(names, w []string) ([]api.Tok, bool) {
	if len(w) == 0 {
		return nil, false
	}
	if op, is := prefixes[w[0]]; is {
		a, is := tightOf(names, w[1:])
		return append(slices.Clone(a), api.Tok{Op: op}), is
	}
	closes := slices.Index(nesting(w), 0)
	switch {
	case closes > 0 && w[0] == "<" && w[closes] == ">":
		a, isA := pathOf(names, w[1:closes])
		b, isB := tightOf(names, w[closes+1:])
		return both(a, isA, b, isB, api.Dia)
	case closes > 0 && w[0] == "[" && w[closes] == "]":
		a, isA := pathOf(names, w[1:closes])
		b, isB := tightOf(names, w[closes+1:])
		return both(a, isA, b, isB, api.Box)
	case closes > 0 && closes == len(w)-1 && w[0] == "(" && w[closes] == ")":
		return formulaOf(names, w[1:closes])
	case len(w) > 1:
		return nil, false
	}
	if op, is := map[string]api.Op{"true": api.True, "false": api.False, "last": api.Last}[w[0]]; is {
		return []api.Tok{{Op: op}}, true
	}
	p := slices.Index(names, w[0])
	return []api.Tok{{Op: api.Prop, P: uint8(max(p, 0))}}, p >= 0
}

func pathOf(names, w []string) ([]api.Tok, bool) {
	if len(w) == 0 {
		return nil, false
	}
	if at, op, is := cut(w, pathLevels); is {
		a, isA := pathOf(names, w[:at])
		b, isB := pathOf(names, w[at+1:])
		return both(a, isA, b, isB, op)
	}
	last := len(w) - 1
	op := api.Star
	var a []api.Tok
	is := false
	switch {
	case w[last] == "*":
		a, is = pathOf(names, w[:last])
	case w[0] == "?":
		op = api.Test
		a, is = tightOf(names, w[1:])
	case slices.Index(nesting(w), 0) != last:
		return nil, false
	case w[0] == "{" && w[last] == "}":
		op = api.Step
		a, is = formulaOf(names, w[1:last])
	case w[0] == "(" && w[last] == ")":
		return pathOf(names, w[1:last])
	}
	return append(slices.Clone(a), api.Tok{Op: op}), is
}

// machine tells whether words go on. Its state is what comes next, or what was just read: f, a formula is to come; F, one was read; r and R of paths likewise. Open brackets stand in open, those of a path as /, a ? with its formula too.
type machine struct {
	state byte
	open  string
}

func newMachine(path bool) *machine {
	if path {
		return &machine{state: 'r'}
	}
	return &machine{state: 'f'}
}

// close takes a bracket off, if it is the last open one.
func (m *machine) close(bracket string, state byte) bool {
	rest, is := strings.CutSuffix(m.open, bracket)
	if is {
		m.open, m.state = rest, state
	}
	return is
}

// enter puts a bracket on.
func (m *machine) enter(bracket string, state byte) bool {
	m.open += bracket
	m.state = state
	return true
}

func (m *machine) goOn(w string) bool {
	on := m.step(w)
	if m.state == 'F' {
		m.close("?", 'R')
	}
	return on
}

func (m *machine) step(w string) bool {
	among := func(s string) bool { return slices.Contains(strings.Fields(s), w) }
	switch m.state {
	case 'f':
		switch {
		case among("! X N F G"):
			return true
		case among("< ["):
			return m.enter(w, 'r')
		case among("("):
			return m.enter(w, 'f')
		case among("true false last") || letter.Name(w):
			m.state = 'F'
			return true
		}
	case 'F':
		switch {
		case among("<-> -> | & U R"):
			m.state = 'f'
			return true
		case among(")"):
			return m.close("(", 'F')
		case among("}"):
			return m.close("{", 'R')
		}
	case 'r':
		switch {
		case among("{ ?"):
			return m.enter(w, 'f')
		case among("("):
			return m.enter("/", 'r')
		}
	case 'R':
		switch {
		case among("+ ;"):
			m.state = 'r'
			return true
		case among("*"):
			return true
		case among(")"):
			return m.close("/", 'R')
		case among(">"):
			return m.close("<", 'f')
		case among("]"):
			return m.close("[", 'f')
		}
	}
	return false
}

// done tells whether the words may end.
func (m *machine) done(path bool) bool {
	if path {
		return m.state == 'R' && m.open == ""
	}
	return m.state == 'F' && m.open == ""
}

// finish tells words by which what was begun is a whole.
func (m *machine) finish(path bool) []string {
	var l []string
	for !m.done(path) {
		w := "p"
		switch m.state {
		case 'r':
			w = "{"
		case 'F', 'R':
			w = map[byte]string{'(': ")", '{': "}", '/': ")", '<': ">", '[': "]"}[m.open[len(m.open)-1]]
		}
		if !m.goOn(w) {
			panic("the machine does not go on by its own word: " + w)
		}
		l = append(l, w)
	}
	return l
}

// want works out what Formula or Path must answer.
func want(names []string, s string, path bool) ([]api.Tok, api.Fault) {
	if err := letter.Check(names); err != api.OK {
		return nil, api.Fault{Err: err, At: -1}
	}
	words, f := lexis.Words(s)
	if f != (api.Fault{}) {
		return nil, f
	}
	m := newMachine(path)
	var texts []string
	for _, w := range words {
		if !m.goOn(w.Text) {
			return nil, api.Fault{Err: api.ErrParse, At: w.At}
		}
		if w.Sort == api.Call && !slices.Contains(names, w.Text) {
			return nil, api.Fault{Err: api.ErrMissing, At: w.At}
		}
		texts = append(texts, w.Text)
	}
	if !m.done(path) {
		return nil, api.Fault{Err: api.ErrParse, At: len(s)}
	}
	read, check := formulaOf, term.Check
	if path {
		read, check = pathOf, term.Path
	}
	l, is := read(names, texts)
	if !is {
		panic("the tests' two ways to read a text say different things of " + s)
	}
	if err := check(l); err != api.OK {
		return nil, api.Fault{Err: err, At: -1}
	}
	return l, api.Fault{}
}

func call(path bool) func([]string, string) ([]api.Tok, api.Fault) {
	if path {
		return parse.Path
	}
	return parse.Formula
}

// ask asks Formula and Path, and holds their answers against what must be. It tells how many of them were read.
func ask(t *testing.T, names []string, s string) int {
	t.Helper()
	read := 0
	for _, path := range []bool{false, true} {
		l, f := call(path)(names, s)
		must, fault := want(names, s, path)
		if f != fault || !slices.Equal(l, must) {
			t.Fatalf("of %q (a path: %v): %v %v, not %v %v", s, path, l, f, must, fault)
		}
		if f == (api.Fault{}) {
			read++
		}
	}
	return read
}

// formula asks that Formula reads a text, over p q r s, as these tokens.
func formula(t *testing.T, s, toks string) {
	t.Helper()
	if l, f := parse.Formula(pqrs, s); f != (api.Fault{}) || !slices.Equal(l, tokens(toks)) {
		t.Errorf("Formula of %q = %v %v, not %s", s, l, f, toks)
	}
}

// path asks that Path reads a text, over p q r s, as these tokens.
func path(t *testing.T, s, toks string) {
	t.Helper()
	if l, f := parse.Path(pqrs, s); f != (api.Fault{}) || !slices.Equal(l, tokens(toks)) {
		t.Errorf("Path of %q = %v %v, not %s", s, l, f, toks)
	}
}

// noFormula asks that Formula refuses a text, over p and q.
func noFormula(t *testing.T, s string, err api.Errno, at int) {
	t.Helper()
	if l, f := parse.Formula(pq, s); len(l) != 0 || f != (api.Fault{Err: err, At: at}) {
		t.Errorf("Formula of %q = %v %v, not %d at %d", s, l, f, err, at)
	}
}

// noPath asks that Path refuses a text, over p and q.
func noPath(t *testing.T, s string, err api.Errno, at int) {
	t.Helper()
	if l, f := parse.Path(pq, s); len(l) != 0 || f != (api.Fault{Err: err, At: at}) {
		t.Errorf("Path of %q = %v %v, not %d at %d", s, l, f, err, at)
	}
}

// P5.1

func TestExamples(t *testing.T) {
	formula(t, "p U q & p", "P0 P1 Until P0 And")
	formula(t, "p -> q -> p", "P0 P1 P0 Imp Imp")
	formula(t, "p <-> q <-> p", "P0 P1 Iff P0 Iff")
	formula(t, "<{p} ; (?q + {true})*> last", "P0 Step P1 Test True Step Plus Star Seq Last Dia")
	formula(t, "[{p}*] F q", "P0 Step Star P1 Finally Box")
	formula(t, "!p U X q", "P0 Not P1 Next Until")
	noFormula(t, "", api.ErrParse, 0)
	noFormula(t, "p q", api.ErrParse, 2)
	noFormula(t, "(p", api.ErrParse, 2)
	noFormula(t, "p &", api.ErrParse, 3)
	noFormula(t, "r", api.ErrMissing, 0)
	noFormula(t, "<p> q", api.ErrParse, 1)
	noFormula(t, "<{X p}> q", api.ErrForm, -1)
	path(t, "{p}*", "P0 Step Star")
	noPath(t, "p", api.ErrParse, 0)
	if l, f := parse.Formula([]string{"p", "p"}, "p"); len(l) != 0 || f != (api.Fault{Err: api.ErrThere, At: -1}) {
		t.Error(l, f)
	}
}

func TestEachLineOfTheFormulas(t *testing.T) {
	formula(t, "p <-> q", "P0 P1 Iff")
	formula(t, "p -> q", "P0 P1 Imp")
	formula(t, "p | q", "P0 P1 Or")
	formula(t, "p & q", "P0 P1 And")
	formula(t, "p U q", "P0 P1 Until")
	formula(t, "p R q", "P0 P1 Release")
	formula(t, "! p", "P0 Not")
	formula(t, "X p", "P0 Next")
	formula(t, "N p", "P0 Weak")
	formula(t, "F p", "P0 Finally")
	formula(t, "G p", "P0 Globally")
	formula(t, "<{p}> q", "P0 Step P1 Dia")
	formula(t, "[{p}] q", "P0 Step P1 Box")
	formula(t, "true", "True")
	formula(t, "false", "False")
	formula(t, "last", "Last")
	formula(t, "p", "P0")
	formula(t, "s", "P3")
	formula(t, "(p)", "P0")
}

func TestFromTheLeftAndFromTheRight(t *testing.T) {
	formula(t, "p <-> q <-> r <-> s", "P0 P1 Iff P2 Iff P3 Iff")
	formula(t, "p -> q -> r -> s", "P0 P1 P2 P3 Imp Imp Imp")
	formula(t, "p | q | r | s", "P0 P1 Or P2 Or P3 Or")
	formula(t, "p & q & r & s", "P0 P1 And P2 And P3 And")
	formula(t, "p U q U r U s", "P0 P1 P2 P3 Until Until Until")
	formula(t, "p R q R r R s", "P0 P1 P2 P3 Release Release Release")
	formula(t, "p U q R r U s", "P0 P1 P2 P3 Until Release Until")
	formula(t, "p R q U r R s", "P0 P1 P2 P3 Release Until Release")
	formula(t, "p <-> (q <-> r)", "P0 P1 P2 Iff Iff")
	formula(t, "(p -> q) -> r", "P0 P1 Imp P2 Imp")
	formula(t, "p | (q | r)", "P0 P1 P2 Or Or")
	formula(t, "p & (q & r)", "P0 P1 P2 And And")
	formula(t, "(p U q) R r", "P0 P1 Until P2 Release")
}

func TestWeakerOperatorsStandOutside(t *testing.T) {
	ops := []struct {
		text, tok string
		strength  int
	}{{"<->", "Iff", 1}, {"->", "Imp", 2}, {"|", "Or", 3}, {"&", "And", 4}, {"U", "Until", 5}, {"R", "Release", 5}}
	for _, a := range ops {
		for _, b := range ops {
			s := "p " + a.text + " q " + b.text + " r"
			left := "P0 P1 " + a.tok + " P2 " + b.tok
			right := "P0 P1 P2 " + b.tok + " " + a.tok
			switch {
			case a.strength > b.strength:
				formula(t, s, left)
			case a.strength < b.strength:
				formula(t, s, right)
			case a.strength == 2 || a.strength == 5:
				formula(t, s, right)
			default:
				formula(t, s, left)
			}
		}
		for _, one := range []string{"! Not", "X Next", "N Weak", "F Finally", "G Globally"} {
			pre := strings.Fields(one)
			formula(t, pre[0]+" p "+a.text+" q", "P0 "+pre[1]+" P1 "+a.tok)
			formula(t, "p "+a.text+" "+pre[0]+" q", "P0 P1 "+pre[1]+" "+a.tok)
			formula(t, pre[0]+" (p "+a.text+" q)", "P0 P1 "+a.tok+" "+pre[1])
			formula(t, "<{p}> "+pre[0]+" q "+a.text+" r", "P0 Step P1 "+pre[1]+" Dia P2 "+a.tok)
			formula(t, pre[0]+" [{p}] q "+a.text+" r", "P0 Step P1 Box "+pre[1]+" P2 "+a.tok)
		}
		formula(t, "<{p}> q "+a.text+" r", "P0 Step P1 Dia P2 "+a.tok)
		formula(t, "[{p}] q "+a.text+" r", "P0 Step P1 Box P2 "+a.tok)
		formula(t, "p "+a.text+" <{q}> r", "P0 P1 Step P2 Dia "+a.tok)
		formula(t, "<?(p "+a.text+" q)> r "+a.text+" s", "P0 P1 "+a.tok+" Test P2 Dia P3 "+a.tok)
	}
}

func TestAllLinesAtOnce(t *testing.T) {
	formula(t, "p <-> q -> r | s & p U ! q", "P0 P1 P2 P3 P0 P1 Not Until And Or Imp Iff")
	formula(t, "! p U q & r | s -> p <-> q", "P0 Not P1 Until P2 And P3 Or P0 Imp P1 Iff")
	formula(t, "X N F G ! p", "P0 Not Globally Finally Weak Next")
	formula(t, "!!p", "P0 Not Not")
	formula(t, "<{p}>[{q}]<{r}>s", "P0 Step P1 Step P2 Step P3 Dia Box Dia")
	formula(t, "G(p->F q)", "P0 P1 Finally Imp Globally")
	formula(t, "true U false R last", "True False Last Release Until")
	formula(t, "<?<{p}>q>r", "P0 Step P1 Dia Test P2 Dia")
	formula(t, "<?(p U q);{r}>s", "P0 P1 Until Test P2 Step Seq P3 Dia")
}

func TestStepsThatAreNotPlain(t *testing.T) {
	for _, s := range []string{"X p", "N p", "F p", "G p", "p U q", "p R q", "last", "<{p}> q", "[{p}] q", "p & last", "!X p", "p -> (q | F p)"} {
		noFormula(t, "<{"+s+"}> q", api.ErrForm, -1)
		noFormula(t, "p & [{true} ; {"+s+"}*] q", api.ErrForm, -1)
		noPath(t, "{"+s+"}", api.ErrForm, -1)
		ask(t, pq, "<?("+s+")> q")
		if l, f := parse.Path(pq, "?("+s+")"); f != (api.Fault{}) || l[len(l)-1].Op != api.Test {
			t.Error(s, l, f)
		}
	}
	for _, s := range []string{"p", "true", "false", "!p", "p & q", "p | q", "p -> q", "p <-> !(q & true)"} {
		if l, f := parse.Path(pq, "{"+s+"}"); f != (api.Fault{}) || l[len(l)-1].Op != api.Step {
			t.Error(s, l, f)
		}
	}
}

// P5.2

func TestEachLineOfThePaths(t *testing.T) {
	path(t, "{p} + {q}", "P0 Step P1 Step Plus")
	path(t, "{p} ; {q}", "P0 Step P1 Step Seq")
	path(t, "{p} *", "P0 Step Star")
	path(t, "{p} * *", "P0 Step Star Star")
	path(t, "{p}***", "P0 Step Star Star Star")
	path(t, "{p}", "P0 Step")
	path(t, "?p", "P0 Test")
	path(t, "({p})", "P0 Step")
	path(t, "(?p)", "P0 Test")
	path(t, "{p} + {q} + {r} + {s}", "P0 Step P1 Step Plus P2 Step Plus P3 Step Plus")
	path(t, "{p} ; {q} ; {r} ; {s}", "P0 Step P1 Step Seq P2 Step Seq P3 Step Seq")
	path(t, "{p} + ({q} + {r})", "P0 Step P1 Step P2 Step Plus Plus")
	path(t, "{p} ; ({q} ; {r})", "P0 Step P1 Step P2 Step Seq Seq")
	path(t, "{p} ; {q} + {r}", "P0 Step P1 Step Seq P2 Step Plus")
	path(t, "{p} + {q} ; {r}", "P0 Step P1 Step P2 Step Seq Plus")
	path(t, "({p} + {q}) ; {r}", "P0 Step P1 Step Plus P2 Step Seq")
	path(t, "{p} ; {q}*", "P0 Step P1 Step Star Seq")
	path(t, "({p} ; {q})*", "P0 Step P1 Step Seq Star")
	path(t, "{p}* + {q}*", "P0 Step Star P1 Step Star Plus")
	path(t, "(({p}*))*", "P0 Step Star Star")
}

func TestWhatStandsBehindTest(t *testing.T) {
	path(t, "?p*", "P0 Test Star")
	path(t, "?!p*", "P0 Not Test Star")
	path(t, "?!X p;{q}", "P0 Next Not Test P1 Step Seq")
	path(t, "?<{p}>q+?r", "P0 Step P1 Dia Test P2 Test Plus")
	path(t, "?[{p}*]!q*", "P0 Step Star P1 Not Box Test Star")
	path(t, "?(p & q)*", "P0 P1 And Test Star")
	path(t, "?(p <-> q U r)", "P0 P1 P2 Until Iff Test")
	path(t, "?last;?true;?false", "Last Test True Test Seq False Test Seq")
	path(t, "?<?p>q*", "P0 Test P1 Dia Test Star")
	for _, op := range []string{"<->", "->", "|", "&", "U", "R"} {
		noPath(t, "?p "+op+" q", api.ErrParse, 3)
		noPath(t, "? !p "+op+" q", api.ErrParse, 5)
		noPath(t, "{p};?<{q}>p "+op, api.ErrParse, 12)
		noFormula(t, "<?p "+op+" q> p", api.ErrParse, 4)
	}
	noPath(t, "??p", api.ErrParse, 1)
	noPath(t, "?{p}", api.ErrParse, 1)
	noPath(t, "?", api.ErrParse, 1)
	noPath(t, "?*", api.ErrParse, 1)
	noPath(t, "?(?p)", api.ErrParse, 2)
	noPath(t, "?({p})", api.ErrParse, 2)
	noPath(t, "?(p*)", api.ErrParse, 3)
}

func TestPathsFaults(t *testing.T) {
	noPath(t, "", api.ErrParse, 0)
	noPath(t, "  ", api.ErrParse, 2)
	noPath(t, "*", api.ErrParse, 0)
	noPath(t, "!p", api.ErrParse, 0)
	noPath(t, "true", api.ErrParse, 0)
	noPath(t, "<{p}> q", api.ErrParse, 0)
	noPath(t, "r", api.ErrParse, 0)
	noPath(t, "(r)", api.ErrParse, 1)
	noPath(t, "{r}", api.ErrMissing, 1)
	noPath(t, "?r", api.ErrMissing, 1)
	noPath(t, "{p", api.ErrParse, 2)
	noPath(t, "{p)", api.ErrParse, 2)
	noPath(t, "{}", api.ErrParse, 1)
	noPath(t, "{{p}}", api.ErrParse, 1)
	noPath(t, "{?p}", api.ErrParse, 1)
	noPath(t, "{p}*q", api.ErrParse, 4)
	noPath(t, "{p}{q}", api.ErrParse, 3)
	noPath(t, "{p}?q", api.ErrParse, 3)
	noPath(t, "{p}({q})", api.ErrParse, 3)
	noPath(t, "{p};", api.ErrParse, 4)
	noPath(t, "{p}+ ", api.ErrParse, 5)
	noPath(t, "{p}+;{q}", api.ErrParse, 4)
	noPath(t, ";{p}", api.ErrParse, 0)
	noPath(t, "({p}", api.ErrParse, 4)
	noPath(t, "({p}}", api.ErrParse, 4)
	noPath(t, "{p})", api.ErrParse, 3)
	noPath(t, "{p}>", api.ErrParse, 3)
	noPath(t, "{p}&{q}", api.ErrParse, 3)
	noPath(t, "()", api.ErrParse, 1)
	noPath(t, "{p}#", api.ErrWord, 3)
	noPath(t, "{X p}", api.ErrForm, -1)
	noPath(t, "{"+strings.Repeat("!", 63)+"p}", api.ErrDeep, -1)
	noPath(t, strings.Repeat("?p;", 171)+"?p", api.ErrLong, -1)
	noPath(t, strings.Repeat(" ", 4097), api.ErrLong, -1)
	for names, err := range map[string]api.Errno{"p p": api.ErrThere, "p P": api.ErrName, "a b c d e f g h i": api.ErrLong} {
		if l, f := parse.Path(strings.Fields(names), "{p} #"); len(l) != 0 || f != (api.Fault{Err: err, At: -1}) {
			t.Error(names, l, f)
		}
	}
}

// P5.1 and P5.2: where it can't go on, and the order of faults

func TestWhereItCannotGoOn(t *testing.T) {
	for _, s := range []string{")", "]", "}", ">", "{", "?", "&", "|", "+", ";", "*", "->", "<->", "U", "R"} {
		noFormula(t, s, api.ErrParse, 0)
		noFormula(t, "  "+s+" p", api.ErrParse, 2)
		noFormula(t, "p & "+s, api.ErrParse, 4)
		noFormula(t, "X "+s, api.ErrParse, 2)
		noFormula(t, "<{p}> "+s, api.ErrParse, 6)
	}
	for _, s := range []string{"(", "[", "{", "<", "!", "?", "+", ";", "*", ")", "]", "}", ">", "X", "N", "F", "G", "true", "false", "last", "q", "r", "other"} {
		noFormula(t, "p  "+s, api.ErrParse, 3)
		noFormula(t, "(q) "+s+" p", api.ErrParse, 4)
		noFormula(t, "G p U q "+s, api.ErrParse, 8)
	}
	for _, s := range []string{")", "]", "}", ">", "<", "[", "!", "&", "*", "+", ";", "X", "U", "true", "p", "r", "<->"} {
		noFormula(t, "< "+s, api.ErrParse, 2)
		noFormula(t, "[ "+s+" ] p", api.ErrParse, 2)
		noFormula(t, "<{p}; "+s, api.ErrParse, 6)
		noFormula(t, "<( "+s, api.ErrParse, 3)
	}
	for _, s := range []string{")", "]", "}", "<", "[", "(", "{", "!", "?", "&", "U", "true", "p", "r", "->"} {
		noFormula(t, "<{p} "+s, api.ErrParse, 5)
	}
	noFormula(t, "(p]", api.ErrParse, 2)
	noFormula(t, "(p}", api.ErrParse, 2)
	noFormula(t, "(p>", api.ErrParse, 2)
	noFormula(t, "[{p}> q", api.ErrParse, 4)
	noFormula(t, "<{p}] q", api.ErrParse, 4)
	noFormula(t, "<{p)> q", api.ErrParse, 3)
	noFormula(t, "<({p}> q", api.ErrParse, 5)
	noFormula(t, "<(p)> q", api.ErrParse, 2)
	noFormula(t, "()", api.ErrParse, 1)
	noFormula(t, "(p))", api.ErrParse, 3)
	noFormula(t, "p && q", api.ErrParse, 3)
	noFormula(t, "p < q", api.ErrParse, 2)
	noFormula(t, "p <-> -> q", api.ErrParse, 6)
	noFormula(t, "X", api.ErrParse, 1)
	noFormula(t, "p U", api.ErrParse, 3)
	noFormula(t, "pUq", api.ErrWord, 0)
}

func TestWordsThatEndTooEarly(t *testing.T) {
	for _, s := range []string{"", "(", "((", "!", "X", "p &", "p U", "p ->", "p <->", "p |", "p R", "<", "<{", "<{p", "<{p}", "<{p}>", "<{p}*", "<{p};", "<{p}+", "<?", "<?p", "<(", "<({p}", "<({p})", "[", "[{p}", "[{p}]", "[{p}] !", "(p", "(p & (q", "G (p -> F", "<{p}> q &", "(<{p}> q"} {
		for _, blanks := range []string{"", " ", "   "} {
			noFormula(t, s+blanks, api.ErrParse, len(s)+len(blanks))
		}
	}
	for _, n := range []int{0, 1, 2, 100, 4096} {
		noFormula(t, strings.Repeat(" ", n), api.ErrParse, n)
		noPath(t, strings.Repeat(" ", n), api.ErrParse, n)
	}
}

func TestNamesThatAreMissing(t *testing.T) {
	noFormula(t, "  r", api.ErrMissing, 2)
	noFormula(t, "p & r", api.ErrMissing, 4)
	noFormula(t, "p1", api.ErrMissing, 0)
	noFormula(t, "pq", api.ErrMissing, 0)
	noFormula(t, "<{r}> p", api.ErrMissing, 2)
	noFormula(t, "<?r> p", api.ErrMissing, 2)
	noFormula(t, "<{p}> r", api.ErrMissing, 6)
	noFormula(t, "(r", api.ErrMissing, 1)
	noFormula(t, "r s", api.ErrMissing, 0)
	noFormula(t, "r )", api.ErrMissing, 0)
	noFormula(t, "p & r )", api.ErrMissing, 4)
	noFormula(t, "p r", api.ErrParse, 2)
	noFormula(t, "p ) r", api.ErrParse, 2)
	noFormula(t, "<r> q", api.ErrParse, 1)
	noFormula(t, "<{X r}> q", api.ErrMissing, 4)
	noFormula(t, "<{X p}> r", api.ErrMissing, 8)
	noFormula(t, "<{X p}> q q", api.ErrParse, 10)
	noFormula(t, strings.Repeat("!", 600)+"r", api.ErrMissing, 600)
	for _, names := range [][]string{nil, {}} {
		if l, f := parse.Formula(names, "p"); len(l) != 0 || f != (api.Fault{Err: api.ErrMissing, At: 0}) {
			t.Error(l, f)
		}
		if l, f := parse.Formula(names, "true U last"); !slices.Equal(l, tokens("True Last Until")) || f != (api.Fault{}) {
			t.Error(l, f)
		}
	}
}

func TestNamesByTheirPlaces(t *testing.T) {
	names := []string{"x", "u", "g", "p1", "true2", "lastly", "abcdefghijklmnopqrst", "z"}
	for i, name := range names {
		if l, f := parse.Formula(names, name); !slices.Equal(l, []api.Tok{{Op: api.Prop, P: uint8(i)}}) || f != (api.Fault{}) {
			t.Error(name, l, f)
		}
		if l, f := parse.Path(names, "{"+name+"}"); !slices.Equal(l, []api.Tok{{Op: api.Prop, P: uint8(i)}, {Op: api.Step}}) || f != (api.Fault{}) {
			t.Error(name, l, f)
		}
	}
	if l, f := parse.Formula([]string{"q", "p"}, "p U q"); !slices.Equal(l, tokens("P1 P0 Until")) || f != (api.Fault{}) {
		t.Error(l, f)
	}
}

func TestWrongNames(t *testing.T) {
	for _, c := range []struct {
		names []string
		err   api.Errno
	}{
		{[]string{"p", "p"}, api.ErrThere},
		{[]string{"p", "q", "p"}, api.ErrThere},
		{[]string{"p", ""}, api.ErrName},
		{[]string{"true"}, api.ErrName},
		{[]string{"X"}, api.ErrName},
		{[]string{"p", "p", "P"}, api.ErrThere},
		{[]string{"P", "p", "p"}, api.ErrName},
		{strings.Fields("a b c d e f g h i"), api.ErrLong},
		{strings.Fields("a a a a a a a a A"), api.ErrLong},
	} {
		for _, s := range []string{"p", "", "p #", "p q", "r", "<{X p}> p", "{p}", strings.Repeat("p", 5000)} {
			for _, path := range []bool{false, true} {
				if l, f := call(path)(c.names, s); len(l) != 0 || f != (api.Fault{Err: c.err, At: -1}) {
					t.Errorf("%v %.9q: %v %v", c.names, s, l, f)
				}
			}
		}
	}
}

func TestOrderOfFaults(t *testing.T) {
	noFormula(t, "p q #", api.ErrWord, 4)
	noFormula(t, "r #", api.ErrWord, 2)
	noFormula(t, "<{X p}> q P", api.ErrWord, 10)
	noFormula(t, "p q r", api.ErrParse, 2)
	noFormula(t, "r q q", api.ErrMissing, 0)
	noFormula(t, "q q"+strings.Repeat(" ", 4094), api.ErrLong, -1)
	noFormula(t, "r"+strings.Repeat(" ", 4096), api.ErrLong, -1)
	noFormula(t, strings.Repeat("!", 600), api.ErrParse, 600)
	noFormula(t, strings.Repeat("!", 600)+"p p", api.ErrParse, 602)
	noFormula(t, "<{X p}>"+strings.Repeat("!", 600)+"p", api.ErrLong, -1)
	noFormula(t, "<{X p}>"+strings.Repeat("!", 100)+"p", api.ErrForm, -1)
	noFormula(t, "<{p}>"+strings.Repeat("!", 100)+"p", api.ErrDeep, -1)
}

// balanced is a text of n names with & between, nested as little as may be: 2n - 1 tokens.
func balanced(n int) string {
	if n == 1 {
		return "p"
	}
	return "(" + balanced(n/2) + "&" + balanced(n-n/2) + ")"
}

func TestLongAndDeepFormulas(t *testing.T) {
	for n, s := range map[int]string{511: balanced(256), 512: "!" + balanced(256)} {
		if l, f := parse.Formula(pq, s); len(l) != n || f != (api.Fault{}) {
			t.Error(n, len(l), f)
		}
	}
	noFormula(t, "!!"+balanced(256), api.ErrLong, -1)
	noFormula(t, balanced(257), api.ErrLong, -1)
	noFormula(t, strings.Repeat("!", 4095)+"p", api.ErrLong, -1)
	noFormula(t, strings.Repeat("p|", 256)+"p", api.ErrLong, -1)
	noFormula(t, strings.Repeat("p|", 255)+"p", api.ErrDeep, -1)
	// How often a piece may stand: the path of one letter is nested, too.
	for piece, most := range map[string]int{"!": 63, "X ": 63, "G(": 63, "p|": 63, "p->": 63, "p U ": 63, "[?p]": 62, "<{p}>": 62} {
		for _, n := range []int{1, most - 1, most, most + 1, most + 2} {
			s := strings.Repeat(piece, n) + "p" + strings.Repeat(")", n*strings.Count(piece, "("))
			l, f := parse.Formula(pq, s)
			if n <= most && f != (api.Fault{}) || n > most && (len(l) != 0 || f != (api.Fault{Err: api.ErrDeep, At: -1})) {
				t.Error(piece, n, l, f)
			}
			ask(t, pq, s)
		}
	}
	// Brackets nest a text, not a formula.
	if l, f := parse.Formula(pq, strings.Repeat("(", 2047)+"p"+strings.Repeat(")", 2047)); !slices.Equal(l, tokens("P0")) || f != (api.Fault{}) {
		t.Error(l, f)
	}
	if l, f := parse.Path(pq, strings.Repeat("(", 2046)+"{q}"+strings.Repeat(")", 2046)); !slices.Equal(l, tokens("P1 Step")) || f != (api.Fault{}) {
		t.Error(l, f)
	}
}

func TestLongTexts(t *testing.T) {
	for _, s := range []string{"p", "X p", "(p & q)", "<{p}> q"} {
		blanks := strings.Repeat(" ", 4096-len(s))
		for _, whole := range []string{s + blanks, blanks + s} {
			l, f := parse.Formula(pq, whole)
			if short, _ := parse.Formula(pq, s); !slices.Equal(l, short) || f != (api.Fault{}) {
				t.Errorf("%q with blanks: %v %v", s, l, f)
			}
			noFormula(t, whole+" ", api.ErrLong, -1)
			noFormula(t, " "+whole, api.ErrLong, -1)
			noPath(t, whole+" ", api.ErrLong, -1)
		}
	}
	for _, piece := range []string{"(", "!", "<{", "[(", "<?", "<{p};", "(p->", "<?[{", "p&", "p U ", "{", "({", "?<", "((", "X "} {
		s := strings.Repeat(piece, 4097)
		noFormula(t, s[:4097], api.ErrLong, -1)
		noPath(t, s[:4097], api.ErrLong, -1)
		ask(t, pq, s[:4096])
		ask(t, pq, s[:4095]+"p")
	}
	noFormula(t, strings.Repeat("(", 4096), api.ErrParse, 4096)
	noFormula(t, strings.Repeat("<{", 2048), api.ErrParse, 4096)
	noFormula(t, strings.Repeat("(", 4095)+")", api.ErrParse, 4095)
	noPath(t, strings.Repeat("(", 4095)+"p", api.ErrParse, 4095)
}

// texts lists all texts of n words out of a vocabulary, a blank between each two.
func texts(words []string, n int) []string {
	all := []string{""}
	for range n {
		var longer []string
		for _, s := range all {
			for _, w := range words {
				longer = append(longer, strings.TrimLeft(s+" "+w, " "))
			}
		}
		all = longer
	}
	return all
}

func TestEveryShortText(t *testing.T) {
	every := strings.Fields("( ) [ ] { } < > ! ? & | + ; * -> <-> X N F G U R true false last p q r")
	for n := range 4 {
		for _, s := range texts(every, n) {
			ask(t, pq, s)
		}
	}
	for _, s := range texts(strings.Fields("( ) { } < > ? & p"), 5) {
		ask(t, pq, s)
	}
	read := 0
	for _, s := range texts(strings.Fields("p & -> U ! ( )"), 5) {
		read += ask(t, pq, s)
	}
	for _, s := range texts(strings.Fields("{p} ?q + ; * ( )"), 5) {
		read += ask(t, pq, s)
	}
	if read < 50 {
		t.Error("just", read, "texts were read")
	}
}

func TestFirstWordThatNoTextHasThere(t *testing.T) {
	words := strings.Fields("( ) { } < > ! ? & * p")
	begins := map[bool]map[string]bool{false: {}, true: {}}
	for n := range 6 {
		for _, s := range texts(words, n) {
			w := strings.Fields(s)
			_, isFormula := formulaOf(pq, w)
			_, isPath := pathOf(pq, w)
			for path, is := range map[bool]bool{false: isFormula, true: isPath} {
				for i := 0; is && i <= len(w); i++ {
					begins[path][strings.Join(w[:i], " ")] = true
				}
			}
		}
	}
	for n := range 4 {
		for _, s := range texts(words, n) {
			for _, path := range []bool{false, true} {
				_, f := call(path)(pq, s)
				if f.Err == api.ErrParse && f.At < len(s) {
					behind, _, _ := strings.Cut(s[f.At:], " ")
					if begins[path][s[:f.At]+behind] {
						t.Fatalf("%q is refused at %d, but some text begins so", s, f.At)
					}
					s = s[:f.At]
				}
				m := newMachine(path)
				for _, w := range strings.Fields(s) {
					if !m.goOn(w) {
						t.Fatalf("%q is not refused by the first word with which it can't go on", s)
					}
				}
				whole := s + " " + strings.Join(m.finish(path), " ")
				if _, f := call(path)(pq, whole); f.Err == api.ErrParse {
					t.Fatalf("%q is refused: %v", whole, f)
				}
			}
		}
	}
}

// P5.3

// walk tells words of a formula or path, by chance.
func walk(chance *rand.Rand, path bool, n int) []string {
	m := newMachine(path)
	words := strings.Fields("( ) [ ] { } < > ! ? & | + ; * -> <-> X N F G U R true false last p q r s ) ] } > p q")
	var l []string
	for len(l) < n {
		w := words[chance.Intn(len(words))]
		if !m.goOn(w) {
			continue
		}
		l = append(l, w)
		if len(m.open) > 8 {
			break
		}
	}
	return append(l, m.finish(path)...)
}

// tight joins words with blanks only where they part words.
func tight(l []string) string {
	s := ""
	for i, w := range l {
		if i > 0 && joins(l[i-1], w) {
			s += " "
		}
		s += w
	}
	return s
}

func joins(a, b string) bool {
	both, f := lexis.Words(a + b)
	return f != (api.Fault{}) || len(both) != 2 || both[0].Text != a
}

// loose joins words with some blanks between.
func loose(chance *rand.Rand, l []string) string {
	blanks := func(least int) string { return strings.Repeat(" ", least+chance.Intn(4)) }
	s := blanks(0)
	for _, w := range l {
		s += w + blanks(1)
	}
	return s
}

func TestGrownTexts(t *testing.T) {
	chance := rand.New(rand.NewSource(5))
	read := 0
	for i := range 3000 {
		l := walk(chance, i%3 == 0, chance.Intn(60))
		read += ask(t, pqrs, strings.Join(l, " "))
		read += ask(t, pqrs, loose(chance, l))
		ask(t, pq, tight(l))
		at := chance.Intn(len(l))
		ask(t, pqrs, tight(l[:at]))
		ask(t, pqrs, tight(slices.Delete(slices.Clone(l), at, at+1)))
		ask(t, pqrs, tight(slices.Insert(slices.Clone(l), at, l[chance.Intn(len(l))])))
	}
	if read < 1000 {
		t.Error("just", read, "texts were read")
	}
}

func TestBlanksCountForNothing(t *testing.T) {
	chance := rand.New(rand.NewSource(53))
	for i := range 2000 {
		path := i%3 == 0
		l := walk(chance, path, chance.Intn(40))
		first, f := call(path)(pqrs, tight(l))
		second, g := call(path)(pqrs, loose(chance, l))
		if !slices.Equal(first, second) || f != g {
			t.Fatal(l, first, f, second, g)
		}
	}
	noFormula(t, "pU q", api.ErrWord, 0)
	noFormula(t, "< -> p", api.ErrParse, 2)
}

func TestBracketsAndOperatorsBetween(t *testing.T) {
	chance := rand.New(rand.NewSource(530))
	met := 0
	for i := range 3000 {
		path := i%3 == 0
		one, two := tight(walk(chance, path, chance.Intn(20))), tight(walk(chance, path, chance.Intn(20)))
		a, f := call(path)(pqrs, one)
		b, g := call(path)(pqrs, two)
		if f != (api.Fault{}) || g != (api.Fault{}) {
			continue
		}
		met++
		for _, around := range []string{"(" + one + ")", "((" + one + "))", " ( (( " + one + " ) )) "} {
			if l, f := call(path)(pqrs, around); !slices.Equal(l, a) || f != (api.Fault{}) {
				t.Fatal(around, l, f)
			}
		}
		levels := formulaLevels
		if path {
			levels = pathLevels
		}
		for _, line := range levels {
			for s, op := range line.ops {
				whole := "(" + one + ")" + s + "(" + two + ")"
				if l, f := call(path)(pqrs, whole); !slices.Equal(l, slices.Concat(a, b, []api.Tok{{Op: op}})) || f != (api.Fault{}) {
					t.Fatal(whole, l, f)
				}
			}
		}
	}
	if met < 500 {
		t.Error("just", met, "pairs were read")
	}
}

// P1, and the rules that hold everywhere

func TestCallsAreCalm(t *testing.T) {
	chance := rand.New(rand.NewSource(50))
	const often = "<->-> ()[]{}!?&|+;*XNFGUR p q r true false last 01P#\xff\xc3\xa4"
	for range 20000 {
		s := make([]byte, chance.Intn(16))
		for i := range s {
			s[i] = often[chance.Intn(len(often))]
			if chance.Intn(40) == 0 {
				s[i] = byte(chance.Intn(256))
			}
		}
		ask(t, pq, string(s))
	}
	for _, names := range [][]string{nil, {""}, {"\xff"}, {"p", "q"}, slices.Repeat([]string{"p"}, 1000), {strings.Repeat("p", 100000)}} {
		for _, s := range []string{"", "p", "{p}", "\x00", strings.Repeat("p&", 100000)} {
			ask(t, names, s)
		}
	}
}

func TestNothingHandedInIsChanged(t *testing.T) {
	room := strings.Fields("p q r s t u v w x y")
	names := room[:2:len(room)]
	before := slices.Clone(room)
	for _, s := range []string{"", "p", "p U q", "p & r", "<{p}*> q", "{p}*", "(p", "<{X p}> q", "#"} {
		l, _ := parse.Formula(names, s)
		_ = append(l, api.Tok{Op: 77})
		parse.Path(names, s)
		if !slices.Equal(room, before) {
			t.Error(s, room)
		}
	}
	if l, f := parse.Formula(names, "r"); len(l) != 0 || f != (api.Fault{Err: api.ErrMissing, At: 0}) {
		t.Error("names in the spare room are none:", l, f)
	}
	l, _ := parse.Formula(names, "p U q")
	room[0], room[1] = "q", "p"
	if !slices.Equal(l, tokens("P0 P1 Until")) {
		t.Error("what was handed in was kept:", l)
	}
	if l, f := parse.Formula(names, "p U q"); !slices.Equal(l, tokens("P1 P0 Until")) || f != (api.Fault{}) {
		t.Error(l, f)
	}
}

func TestAnswersAreNewMemory(t *testing.T) {
	for s, path := range map[string]bool{"p U q & <{p}*> last": false, "{p} ; (?q + {true})*": true} {
		first, _ := call(path)(pq, s)
		must := slices.Clone(first)
		second, _ := call(path)(pq, s)
		for i := range first[:cap(first)] {
			first[:cap(first)][i] = api.Tok{Op: 77, P: 77}
		}
		third, f := call(path)(pq, s)
		if !slices.Equal(second, must) || !slices.Equal(third, must) || f != (api.Fault{}) {
			t.Error(s, second, third, f)
		}
	}
}

func TestAnswersHangOnArgumentsAlone(t *testing.T) {
	for range 3 {
		formula(t, "p U q", "P0 P1 Until")
		noFormula(t, "p U", api.ErrParse, 3)
		noFormula(t, "p U r", api.ErrMissing, 4)
		path(t, "{p}*", "P0 Step Star")
		noPath(t, "{p", api.ErrParse, 2)
		noPath(t, "{last}", api.ErrForm, -1)
	}
	done := make(chan string)
	for i := range 8 {
		go func() {
			s := strings.Repeat("!", i) + "p"
			l, f := parse.Formula(pq, s)
			done <- fmt.Sprint(len(l) == i+1, f)
		}()
	}
	for range 8 {
		if got := <-done; got != fmt.Sprint(true, api.Fault{}) {
			t.Error(got)
		}
	}
}
