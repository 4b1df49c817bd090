package show_test

import (
	"fmt"
	"math/rand"
	"slices"
	"strings"
	"testing"
	"unsafe"

	"rejoinder/api"
	"rejoinder/letter"
	"rejoinder/lexis"
	"rejoinder/parse"
	"rejoinder/show"
	"rejoinder/term"
)

var pq = []string{"p", "q"}

// opNames tells tokens as the document writes them, by Op.
var opNames = strings.Fields("True False Prop Last More Over Not Next Weak Finally Globally And Or Imp Iff Until Release Dia Box Step Test Plus Seq Star")

func tokens(s string) []api.Tok {
	var l []api.Tok
	for _, w := range strings.Fields(s) {
		op := slices.Index(opNames, w)
		switch {
		case len(w) == 2 && w[0] == 'P':
			l = append(l, api.Tok{Op: api.Prop, P: w[1] - '0'})
		case op >= 0:
			l = append(l, api.Tok{Op: api.Op(op)})
		default:
			panic("no token: " + w)
		}
	}
	return l
}

// The tests work out texts from the tokens' end, by a function that calls itself, with the chapter's numbers; and once more by putting brackets around all and taking off those that parse can do without.

// strong tells how strong a token's part is.
func strong(op api.Op) int {
	return map[api.Op]int{
		api.Iff: 1, api.Imp: 2, api.Or: 3, api.And: 4, api.Until: 5, api.Release: 5,
		api.Not: 6, api.Next: 6, api.Weak: 6, api.Finally: 6, api.Globally: 6, api.Dia: 6, api.Box: 6,
		api.True: 7, api.False: 7, api.Last: 7, api.Prop: 7,
		api.Plus: 1, api.Seq: 2, api.Star: 3, api.Step: 4, api.Test: 4,
	}[op]
}

// layout tells how a token's text is laid out: 1 and 2 stand for what it takes.
func layout(names []string, tok api.Tok) string {
	if tok.Op == api.Prop {
		return names[tok.P]
	}
	return map[api.Op]string{
		api.True: "true", api.False: "false", api.Last: "last",
		api.Not: "!1", api.Next: "X 1", api.Weak: "N 1", api.Finally: "F 1", api.Globally: "G 1",
		api.Iff: "1 <-> 2", api.Imp: "1 -> 2", api.Or: "1 | 2", api.And: "1 & 2", api.Until: "1 U 2", api.Release: "1 R 2",
		api.Dia: "<1> 2", api.Box: "[1] 2",
		api.Plus: "1 + 2", api.Seq: "1 ; 2", api.Star: "1*", api.Step: "{1}", api.Test: "?1",
	}[tok.Op]
}

// least tells how strong the two parts must be that a token takes.
func least(op api.Op) (first, second int) {
	k := strong(op)
	switch op {
	case api.Iff, api.Or, api.And, api.Plus, api.Seq:
		return k, k + 1
	case api.Imp, api.Until, api.Release:
		return k + 1, k
	case api.Not, api.Next, api.Weak, api.Finally, api.Globally, api.Test:
		return 6, 0
	case api.Dia, api.Box:
		return 0, 6
	case api.Star:
		return 3, 0
	}
	return 0, 0
}

// say tells the text of the block that ends with the last token, and what is left ahead of it; all: with brackets around each part within another one.
func say(names []string, l []api.Tok, all bool) (text string, rest []api.Tok) {
	tok := l[len(l)-1]
	rest = l[:len(l)-1]
	text = layout(names, tok)
	if tok.Op == api.Prop {
		return text, rest
	}
	first, second := least(tok.Op)
	takes := map[string]string{}
	for _, place := range []string{"2", "1"} {
		if !strings.Contains(text, place) {
			continue
		}
		must := map[string]int{"1": first, "2": second}[place]
		weak := strong(rest[len(rest)-1].Op) < must
		var part string
		part, rest = say(names, rest, all)
		if weak || all {
			part = "(" + part + ")"
		}
		takes[place] = part
	}
	return strings.NewReplacer("1", takes["1"], "2", takes["2"]).Replace(text), rest
}

// pairs tells where round brackets stand that belong together.
func pairs(s string) [][2]int {
	var open []int
	var l [][2]int
	for i := range len(s) {
		switch s[i] {
		case '(':
			open = append(open, i)
		case ')':
			l = append(l, [2]int{open[len(open)-1], i})
			open = open[:len(open)-1]
		}
	}
	return l
}

// without takes a pair of brackets off.
func without(s string, pair [2]int) string {
	return s[:pair[0]] + s[pair[0]+1:pair[1]] + s[pair[1]+1:]
}

func reader(path bool) func([]string, string) ([]api.Tok, api.Fault) {
	if path {
		return parse.Path
	}
	return parse.Formula
}

func teller(path bool) func([]string, []api.Tok) (string, api.Errno) {
	if path {
		return show.Path
	}
	return show.Formula
}

// reads tells whether a text is read as these tokens.
func reads(names []string, s string, l []api.Tok, path bool) bool {
	got, f := reader(path)(names, s)
	return f == (api.Fault{}) && slices.Equal(got, l)
}

// bare takes all brackets off without which the text is still read as the tokens.
func bare(names []string, s string, l []api.Tok, path bool) string {
	for {
		i := slices.IndexFunc(pairs(s), func(pair [2]int) bool { return reads(names, without(s, pair), l, path) })
		if i < 0 {
			return s
		}
		s = without(s, pairs(s)[i])
	}
}

// want works out what Formula or Path must answer.
func want(names []string, l []api.Tok, path bool) (string, api.Errno) {
	if err := letter.Check(names); err != api.OK {
		return "", err
	}
	check := term.Check
	if path {
		check = term.Path
	}
	if err := check(l); err != api.OK {
		return "", err
	}
	if slices.ContainsFunc(l, func(tok api.Tok) bool { return tok.Op == api.More || tok.Op == api.Over }) {
		return "", api.ErrShow
	}
	if slices.ContainsFunc(l, func(tok api.Tok) bool { return tok.Op == api.Prop && int(tok.P) >= len(names) }) {
		return "", api.ErrArg
	}
	text, _ := say(names, l, false)
	if len(text) > 4096 {
		return "", api.ErrLong
	}
	return text, api.OK
}

// ask asks Formula and Path, and holds their answers against what must be. It tells how many texts there were.
func ask(t *testing.T, names []string, l []api.Tok) int {
	t.Helper()
	told := 0
	for _, path := range []bool{false, true} {
		s, err := teller(path)(names, l)
		if must, mustErr := want(names, l, path); s != must || err != mustErr {
			t.Fatalf("of %v (a path: %v): %q %d, not %q %d", l, path, s, err, must, mustErr)
		}
		if err == api.OK {
			told++
		}
	}
	return told
}

// formula asks that Formula tells a text, over p and q, and that it is read again.
func formula(t *testing.T, toks, must string) {
	t.Helper()
	l := tokens(toks)
	if s, err := show.Formula(pq, l); s != must || err != api.OK {
		t.Errorf("Formula of %s = %q %d, not %q", toks, s, err, must)
	}
	if !reads(pq, must, l, false) {
		t.Errorf("%q is not read as %s", must, toks)
	}
}

// path asks that Path tells a text, over p and q, and that it is read again.
func path(t *testing.T, toks, must string) {
	t.Helper()
	l := tokens(toks)
	if s, err := show.Path(pq, l); s != must || err != api.OK {
		t.Errorf("Path of %s = %q %d, not %q", toks, s, err, must)
	}
	if !reads(pq, must, l, true) {
		t.Errorf("%q is not read as %s", must, toks)
	}
}

// noFormula asks that Formula refuses tokens, over p and q.
func noFormula(t *testing.T, toks string, must api.Errno) {
	t.Helper()
	if s, err := show.Formula(pq, tokens(toks)); s != "" || err != must {
		t.Errorf("Formula of %s = %q %d, not %d", toks, s, err, must)
	}
}

// noPath asks that Path refuses tokens, over p and q.
func noPath(t *testing.T, toks string, must api.Errno) {
	t.Helper()
	if s, err := show.Path(pq, tokens(toks)); s != "" || err != must {
		t.Errorf("Path of %s = %q %d, not %d", toks, s, err, must)
	}
}

// tidy asks that Tidy tells a text, over p and q.
func tidy(t *testing.T, text, must string) {
	t.Helper()
	if s, f := show.Tidy(pq, text); s != must || f != (api.Fault{}) {
		t.Errorf("Tidy of %q = %q %v, not %q", text, s, f, must)
	}
}

// noTidy asks that Tidy refuses a text, over p and q.
func noTidy(t *testing.T, text string, err api.Errno, at int) {
	t.Helper()
	if s, f := show.Tidy(pq, text); s != "" || f != (api.Fault{Err: err, At: at}) {
		t.Errorf("Tidy of %.30q = %q %v, not %d at %d", text, s, f, err, at)
	}
}

func TestExamples(t *testing.T) {
	formula(t, "P0 P1 Until P0 And", "p U q & p")
	formula(t, "P0 P1 And P0 Until", "(p & q) U p")
	formula(t, "P0 P1 P0 Imp Imp", "p -> q -> p")
	formula(t, "P0 P1 Imp P0 Imp", "(p -> q) -> p")
	formula(t, "P0 Step P1 Test True Step Plus Star Seq Last Dia", "<{p} ; (?q + {true})*> last")
	formula(t, "P0 P1 And Not", "!(p & q)")
	formula(t, "P0 Next Not", "!X p")
	noFormula(t, "Over", api.ErrShow)
	noFormula(t, "P2", api.ErrArg)
	noFormula(t, "P0 And", api.ErrForm)
	path(t, "P0 Step Star Star", "{p}**")
	tidy(t, "((p)) U (q)", "p U q")
}

// P6.1

func TestEachRowOfTheTexts(t *testing.T) {
	formula(t, "True", "true")
	formula(t, "False", "false")
	formula(t, "Last", "last")
	formula(t, "P0", "p")
	formula(t, "P1", "q")
	formula(t, "P0 Not", "!p")
	formula(t, "P0 Next", "X p")
	formula(t, "P0 Weak", "N p")
	formula(t, "P0 Finally", "F p")
	formula(t, "P0 Globally", "G p")
	formula(t, "P0 Step P1 Dia", "<{p}> q")
	formula(t, "P0 Step P1 Box", "[{p}] q")
	formula(t, "P0 P1 Iff", "p <-> q")
	formula(t, "P0 P1 Imp", "p -> q")
	formula(t, "P0 P1 Or", "p | q")
	formula(t, "P0 P1 And", "p & q")
	formula(t, "P0 P1 Until", "p U q")
	formula(t, "P0 P1 Release", "p R q")
	path(t, "P0 Step P1 Step Plus", "{p} + {q}")
	path(t, "P0 Step P1 Step Seq", "{p} ; {q}")
	path(t, "P0 Step Star", "{p}*")
	path(t, "P0 Step", "{p}")
	path(t, "P0 Test", "?p")
	path(t, "True Test", "?true")
	path(t, "False Step", "{false}")
}

func TestNamesAreTold(t *testing.T) {
	names := []string{"x", "u", "g", "p1", "true2", "lastly", "abcdefghijklmnopqrst", "z"}
	for i, name := range names {
		l := []api.Tok{{Op: api.Prop, P: uint8(i)}}
		if s, err := show.Formula(names, l); s != name || err != api.OK {
			t.Error(name, s, err)
		}
		if s, err := show.Path(names, append(l, api.Tok{Op: api.Step})); s != "{"+name+"}" || err != api.OK {
			t.Error(name, s, err)
		}
	}
	if s, err := show.Formula([]string{"q", "p"}, tokens("P0 P1 Until")); s != "q U p" || err != api.OK {
		t.Error(s, err)
	}
	for _, none := range [][]string{nil, {}} {
		if s, err := show.Formula(none, tokens("True Last Until")); s != "true U last" || err != api.OK {
			t.Error(s, err)
		}
		if s, err := show.Path(none, tokens("True Step Star")); s != "{true}*" || err != api.OK {
			t.Error(s, err)
		}
	}
}

// formulas and paths are parts of each strength, as tokens and as texts.
var formulas = []struct {
	toks, text string
	strong     int
}{
	{"P0 P1 Iff", "p <-> q", 1}, {"P0 P1 Imp", "p -> q", 2}, {"P0 P1 Or", "p | q", 3}, {"P0 P1 And", "p & q", 4}, {"P0 P1 Until", "p U q", 5}, {"P0 P1 Release", "p R q", 5},
	{"P1 Not", "!q", 6}, {"P1 Next", "X q", 6}, {"P1 Weak", "N q", 6}, {"P1 Finally", "F q", 6}, {"P1 Globally", "G q", 6}, {"P0 Step P1 Dia", "<{p}> q", 6}, {"P0 Test P1 Box", "[?p] q", 6},
	{"True", "true", 7}, {"False", "false", 7}, {"Last", "last", 7}, {"P1", "q", 7},
}

var paths = []struct {
	toks, text string
	strong     int
}{
	{"P0 Step P1 Step Plus", "{p} + {q}", 1}, {"P0 Step P1 Test Seq", "{p} ; ?q", 2}, {"P0 Step Star", "{p}*", 3}, {"P0 Test Star", "?p*", 3}, {"P1 Step", "{q}", 4}, {"P1 Test", "?q", 4}, {"P0 Not Test", "?!p", 4},
}

// around puts brackets around a text, if it is weaker than must stand there.
func around(text string, strong, least int) string {
	if strong < least {
		return "(" + text + ")"
	}
	return text
}

func TestFormulasWithinOperatorsBetween(t *testing.T) {
	for _, o := range []struct {
		op, sign      string
		first, second int
	}{{"Iff", "<->", 1, 2}, {"Imp", "->", 3, 2}, {"Or", "|", 3, 4}, {"And", "&", 4, 5}, {"Until", "U", 6, 5}, {"Release", "R", 6, 5}} {
		for _, a := range formulas {
			first := around(a.text, a.strong, o.first)
			formula(t, a.toks+" P0 "+o.op, first+" "+o.sign+" p")
			formula(t, "P0 "+a.toks+" "+o.op, "p "+o.sign+" "+around(a.text, a.strong, o.second))
			for _, b := range formulas {
				formula(t, a.toks+" "+b.toks+" "+o.op, first+" "+o.sign+" "+around(b.text, b.strong, o.second))
			}
		}
	}
}

func TestFormulasWithinOperatorsAhead(t *testing.T) {
	for op, sign := range map[string]string{"Not": "!", "Next": "X ", "Weak": "N ", "Finally": "F ", "Globally": "G "} {
		for _, a := range formulas {
			formula(t, a.toks+" "+op, sign+around(a.text, a.strong, 6))
		}
	}
	for _, a := range formulas {
		behind := around(a.text, a.strong, 6)
		path(t, a.toks+" Test", "?"+behind)
		path(t, a.toks+" Test Star", "?"+behind+"*")
		path(t, a.toks+" Test P0 Step Seq", "?"+behind+" ; {p}")
		formula(t, "P0 Step "+a.toks+" Dia", "<{p}> "+behind)
		formula(t, "P0 Step "+a.toks+" Box", "[{p}] "+behind)
		if plain, _ := term.Plain(tokens(a.toks)); plain {
			path(t, a.toks+" Step", "{"+a.text+"}")
			path(t, a.toks+" Step Star", "{"+a.text+"}*")
			formula(t, a.toks+" Step P0 Dia", "<{"+a.text+"}> p")
		} else {
			noPath(t, a.toks+" Step", api.ErrForm)
		}
	}
}

func TestPathsWithinOperators(t *testing.T) {
	for _, r := range paths {
		path(t, r.toks+" Star", around(r.text, r.strong, 3)+"*")
		formula(t, r.toks+" P0 Dia", "<"+r.text+"> p")
		formula(t, r.toks+" P0 Box", "["+r.text+"] p")
		formula(t, r.toks+" P0 P1 And Dia", "<"+r.text+"> (p & q)")
		formula(t, r.toks+" P0 Box Not", "!["+r.text+"] p")
		for _, s := range paths {
			path(t, r.toks+" "+s.toks+" Plus", r.text+" + "+around(s.text, s.strong, 2))
			path(t, r.toks+" "+s.toks+" Seq", around(r.text, r.strong, 2)+" ; "+around(s.text, s.strong, 3))
		}
	}
}

func TestChains(t *testing.T) {
	formula(t, "P0 P1 Iff P0 Iff P1 Iff", "p <-> q <-> p <-> q")
	formula(t, "P0 P1 P0 P1 Iff Iff Iff", "p <-> (q <-> (p <-> q))")
	formula(t, "P0 P1 P0 P1 Imp Imp Imp", "p -> q -> p -> q")
	formula(t, "P0 P1 Imp P0 Imp P1 Imp", "((p -> q) -> p) -> q")
	formula(t, "P0 P1 Or P0 Or", "p | q | p")
	formula(t, "P0 P1 P0 Or Or", "p | (q | p)")
	formula(t, "P0 P1 And P0 And", "p & q & p")
	formula(t, "P0 P1 P0 And And", "p & (q & p)")
	formula(t, "P0 P1 P0 Release Until", "p U q R p")
	formula(t, "P0 P1 Until P0 Release", "(p U q) R p")
	formula(t, "P0 P1 P0 P1 Until And Or", "p | q & p U q")
	formula(t, "P0 P1 Or P0 And P1 Until", "((p | q) & p) U q")
	formula(t, "P0 Not Next Weak Finally Globally", "G F N X !p")
	formula(t, "P0 Not Not", "!!p")
	formula(t, "P0 P1 Until Not Not", "!!(p U q)")
	formula(t, "P0 Not P1 Next Until", "!p U X q")
	formula(t, "P0 Step Star P1 Finally Box", "[{p}*] F q")
	formula(t, "P0 Step P1 Step P0 Step P1 Dia Box Dia", "<{p}> [{q}] <{p}> q")
	formula(t, "P0 Step P1 Dia Test P0 Box", "[?<{p}> q] p")
	formula(t, "P0 Step P1 Dia P0 And", "<{p}> q & p")
	path(t, "P0 Step P1 Step Plus P0 Test Plus", "{p} + {q} + ?p")
	path(t, "P0 Step P1 Step P0 Test Plus Plus", "{p} + ({q} + ?p)")
	path(t, "P0 Step P1 Step Seq P0 Test Seq", "{p} ; {q} ; ?p")
	path(t, "P0 Step P1 Step P0 Test Seq Seq", "{p} ; ({q} ; ?p)")
	path(t, "P0 Step P1 Step P0 Test Seq Plus Star Star", "({p} + {q} ; ?p)**")
	path(t, "P0 Step P1 Step Plus P0 Test Seq Star", "(({p} + {q}) ; ?p)*")
}

func TestTokensThatNoTextSays(t *testing.T) {
	for _, op := range []string{"More", "Over"} {
		for _, toks := range []string{"#", "# Not", "P0 # Until", "# P0 Until", "P0 P1 # And Or", "P0 Step # Dia", "# Test P0 Box", "P2 # And", "# P7 And", "P7 # Not Imp"} {
			noFormula(t, strings.ReplaceAll(toks, "#", op), api.ErrShow)
		}
		noPath(t, op+" Test", api.ErrShow)
		noPath(t, "P0 Step "+op+" Test Plus", api.ErrShow)
		noPath(t, "P7 Step "+op+" Test Plus", api.ErrShow)
		noPath(t, op+" Test P7 Step Plus", api.ErrShow)
		noPath(t, op+" Step", api.ErrForm)
		noPath(t, op, api.ErrForm)
		noFormula(t, op+" Test", api.ErrForm)
	}
}

func TestPropositionsWithoutAName(t *testing.T) {
	eight := strings.Fields("a b c d e f g h")
	for n := range 9 {
		for p := range uint8(12) {
			for _, l := range [][]api.Tok{
				{{Op: api.Prop, P: p}},
				{{Op: api.True}, {Op: api.Prop, P: p}, {Op: api.Until}},
				{{Op: api.Prop, P: p}, {Op: api.Step}},
				{{Op: api.Prop, P: p}, {Op: api.Step}, {Op: api.Last}, {Op: api.Dia}},
			} {
				isPath := l[len(l)-1].Op == api.Step
				must := api.OK
				switch {
				case p > 7:
					must = api.ErrForm
				case int(p) >= n:
					must = api.ErrArg
				}
				if s, err := teller(isPath)(eight[:n], l); err != must || (s == "") != (must != api.OK) {
					t.Error(n, p, s, err)
				}
				ask(t, eight[:n], l)
			}
		}
	}
}

func TestTokensThatAreNoParts(t *testing.T) {
	for _, toks := range []string{"", "And", "P0 P1", "P0 And", "P0 P1 Dia", "P0 Step P1", "P0 Step Not", "P0 Star", "P0 Next Step P1 Dia", "P0 Step P1 Step Dia", "P0 Step P1 Until", "P0 Step P1 Plus"} {
		noFormula(t, toks, api.ErrForm)
		noPath(t, toks, api.ErrForm)
	}
	noFormula(t, "P0 Step", api.ErrForm)
	noFormula(t, "P0 Step Star", api.ErrForm)
	noPath(t, "P0", api.ErrForm)
	noPath(t, "P0 Step P1 Dia", api.ErrForm)
	noPath(t, "P0 Next Step", api.ErrForm)
	for _, tok := range []api.Tok{{Op: api.True, P: 3}, {Op: api.Last, P: 1}, {Op: 24}, {Op: 255}, {Op: 24, P: 7}, {Op: api.Prop, P: 8}, {Op: api.Prop, P: 255}} {
		if s, err := show.Formula(pq, []api.Tok{tok}); s != "" || err != api.ErrForm {
			t.Error(tok, s, err)
		}
		if s, err := show.Path(pq, []api.Tok{tok, {Op: api.Step}}); s != "" || err != api.ErrForm {
			t.Error(tok, s, err)
		}
		if s, err := show.Path(pq, []api.Tok{{Op: api.True}, {Op: api.Step}, tok}); s != "" || err != api.ErrForm {
			t.Error(tok, s, err)
		}
	}
}

// balanced has n names with And between, nested as little as may be: 2n - 1 tokens.
func balanced(n int) []api.Tok {
	if n == 1 {
		return tokens("P0")
	}
	return slices.Concat(balanced(n/2), balanced(n-n/2), tokens("And"))
}

func TestLongAndDeepTokens(t *testing.T) {
	for n, must := range map[int]api.Errno{255: api.OK, 256: api.OK, 257: api.ErrLong, 1000: api.ErrLong} {
		l := balanced(n)
		if _, err := show.Formula(pq, l); err != must {
			t.Error(n, err)
		}
		ask(t, pq, l)
		ask(t, pq, append(l, api.Tok{Op: api.Step}))
		ask(t, pq, append(l, api.Tok{Op: api.Test}, api.Tok{Op: api.Star}))
	}
	for _, n := range []int{62, 63, 64, 65, 510, 511, 512, 600} {
		nots := tokens("P0" + strings.Repeat(" Not", n))
		must := api.OK
		switch {
		case n >= 512:
			must = api.ErrLong
		case n >= 64:
			must = api.ErrDeep
		}
		if s, err := show.Formula(pq, nots); err != must || err == api.OK && s != strings.Repeat("!", n)+"p" {
			t.Error(n, s, err)
		}
		ask(t, pq, nots)
		stars := tokens("P0 Step" + strings.Repeat(" Star", n-1))
		if s, err := show.Path(pq, stars); err != must || err == api.OK && s != "{p}"+strings.Repeat("*", n-1) {
			t.Error(n, s, err)
		}
		ask(t, pq, stars)
	}
	for _, op := range []string{"Iff", "Imp", "Or", "And", "Until", "Release"} {
		left := "P0" + strings.Repeat(" P1 "+op, 63)
		right := strings.Repeat("P0 ", 63) + "P1" + strings.Repeat(" "+op, 63)
		for _, toks := range []string{left, right} {
			if ask(t, pq, tokens(toks)) != 1 {
				t.Error(op)
			}
			noFormula(t, toks+" P0 "+op, api.ErrDeep)
			noFormula(t, toks+" Not", api.ErrDeep)
		}
	}
}

var longNames = []string{"abcdefghijklmnopqrst", "p"}

// sized is a formula whose text has just n bytes (from 3,800 to 4,600), over longNames: 200 names with operators between, and some negations.
func sized(n int) []api.Tok {
	var groups [][]api.Tok
	free := n - 200 - 199*3
	for i := range 200 {
		leaf := tokens("P1")
		switch {
		case free >= 19:
			leaf = tokens("P0")
			free -= 19
		case free > 0:
			leaf = tokens("P1 Not")
			free--
		}
		if i%20 == 0 {
			groups = append(groups, leaf)
			continue
		}
		last := len(groups) - 1
		groups[last] = slices.Concat(groups[last], leaf, tokens("And"))
	}
	l := groups[0]
	for _, group := range groups[1:] {
		l = slices.Concat(l, group, tokens("Or"))
	}
	return l
}

func TestLongTexts(t *testing.T) {
	for n := 4085; n < 4110; n++ {
		l := sized(n)
		text, _ := say(longNames, l, false)
		if len(text) != n {
			t.Fatalf("a text of %d bytes, not %d", len(text), n)
		}
		s, err := show.Formula(longNames, l)
		if n <= 4096 && (s != text || err != api.OK) || n > 4096 && (s != "" || err != api.ErrLong) {
			t.Error(n, s, err)
		}
		step := append(l, api.Tok{Op: api.Step})
		s, err = show.Path(longNames, step)
		if n <= 4094 && (s != "{"+text+"}" || err != api.OK) || n > 4094 && (s != "" || err != api.ErrLong) {
			t.Error(n, s, err)
		}
		ask(t, longNames, l)
		ask(t, longNames, step)
	}
	for _, n := range []int{4096, 4097, 4500} {
		l := sized(n)
		if s, err := show.Formula(longNames[:1], l); s != "" || err != api.ErrArg {
			t.Error(n, s, err)
		}
		if s, err := show.Formula(longNames[:1], slices.Concat(l, tokens("More Or"))); s != "" || err != api.ErrShow {
			t.Error(n, s, err)
		}
		if s, err := show.Formula(longNames, append(l, api.Tok{Op: api.And})); s != "" || err != api.ErrForm {
			t.Error(n, s, err)
		}
	}
}

func TestWrongNames(t *testing.T) {
	long := slices.Repeat(tokens("True"), 600)
	for _, c := range []struct {
		names []string
		err   api.Errno
	}{
		{[]string{"p", "p"}, api.ErrThere},
		{[]string{"p", "q", "p"}, api.ErrThere},
		{[]string{"p", ""}, api.ErrName},
		{[]string{"true"}, api.ErrName},
		{[]string{"X"}, api.ErrName},
		{[]string{"p", "p", "P"}, api.ErrThere},
		{[]string{"P", "p", "p"}, api.ErrName},
		{strings.Fields("a b c d e f g h i"), api.ErrLong},
		{strings.Fields("a a a a a a a a A"), api.ErrLong},
	} {
		for _, l := range [][]api.Tok{nil, tokens("P0"), tokens("P0 Step"), tokens("More"), tokens("P7"), tokens("And"), tokens("P0" + strings.Repeat(" Not", 100)), long} {
			for _, path := range []bool{false, true} {
				if s, err := teller(path)(c.names, l); s != "" || err != c.err {
					t.Error(c.names, l, s, err)
				}
			}
		}
		for _, text := range []string{"p", "", "p #", "r", "<{X p}> p", strings.Repeat("p", 5000)} {
			if s, f := show.Tidy(c.names, text); s != "" || f != (api.Fault{Err: c.err, At: -1}) {
				t.Errorf("%v %.9q: %q %v", c.names, text, s, f)
			}
		}
	}
}

func TestOrderOfErrors(t *testing.T) {
	noFormula(t, "More P7 And And", api.ErrForm)
	noFormula(t, strings.Repeat("More ", 513), api.ErrLong)
	noFormula(t, "More"+strings.Repeat(" Not", 64), api.ErrDeep)
	noFormula(t, "P7"+strings.Repeat(" Not", 64), api.ErrDeep)
	noFormula(t, "P7 More And", api.ErrShow)
	noFormula(t, "Over P7 And", api.ErrShow)
	noFormula(t, "P7 P0 And", api.ErrArg)
	noPath(t, "More Test And", api.ErrForm)
	noPath(t, "P7 Step"+strings.Repeat(" Star", 63), api.ErrDeep)
	noPath(t, "P7 Step Over Test Seq", api.ErrShow)
	noPath(t, "P0 Step P7 Step Seq", api.ErrArg)
}

// every token that is asked of in turn: all Ops, two names, and one that has none.
func vocabulary() []api.Tok {
	l := tokens("P0 P1 P2")
	for op := range api.Op(25) {
		if op != api.Prop {
			l = append(l, api.Tok{Op: op})
		}
	}
	return l
}

func TestEveryShortList(t *testing.T) {
	lists := [][]api.Tok{nil}
	told := 0
	for range 4 {
		var longer [][]api.Tok
		for _, l := range lists {
			for _, tok := range vocabulary() {
				longer = append(longer, append(slices.Clone(l), tok))
			}
		}
		for _, l := range longer {
			told += ask(t, pq, l)
		}
		lists = longer
	}
	if told < 2000 {
		t.Error("just", told, "texts were told")
	}
}

// grow tells a part by chance, of about n tokens.
func grow(chance *rand.Rand, n int, path, plain bool) []api.Tok {
	pick := func(s string) api.Tok {
		all := tokens(s)
		return all[chance.Intn(len(all))]
	}
	some := chance.Intn(max(n-1, 1))
	switch {
	case path && n < 3:
		return append(grow(chance, 1, false, true), pick("Step Test"))
	case path:
		switch chance.Intn(5) {
		case 0:
			return append(grow(chance, n-1, false, true), pick("Step"))
		case 1:
			return append(grow(chance, n-1, false, false), pick("Test"))
		case 2:
			return append(grow(chance, n-1, true, false), pick("Star"))
		}
		return slices.Concat(grow(chance, some, true, false), grow(chance, n-1-some, true, false), []api.Tok{pick("Plus Seq")})
	case n < 2 && plain:
		return []api.Tok{pick("P0 P1 True False")}
	case n < 2:
		return []api.Tok{pick("P0 P1 True False Last")}
	case plain && chance.Intn(4) == 0:
		return append(grow(chance, n-1, false, true), pick("Not"))
	case plain:
		return slices.Concat(grow(chance, some, false, true), grow(chance, n-1-some, false, true), []api.Tok{pick("And Or Imp Iff")})
	}
	switch chance.Intn(6) {
	case 0, 1:
		return append(grow(chance, n-1, false, false), pick("Not Next Weak Finally Globally"))
	case 2:
		return slices.Concat(grow(chance, some, true, false), grow(chance, n-1-some, false, false), []api.Tok{pick("Dia Box")})
	}
	return slices.Concat(grow(chance, some, false, false), grow(chance, n-1-some, false, false), []api.Tok{pick("And Or Imp Iff Until Release")})
}

func TestGrownParts(t *testing.T) {
	chance := rand.New(rand.NewSource(6))
	told := 0
	for i := range 1500 {
		l := grow(chance, chance.Intn(90), i%3 == 0, false)
		told += ask(t, pq, l)
		ask(t, pq[:1], l)
		at := chance.Intn(len(l))
		ask(t, pq, l[:at])
		changed := slices.Clone(l)
		changed[at] = vocabulary()[chance.Intn(len(vocabulary()))]
		told += ask(t, pq, changed)
	}
	if told < 1000 {
		t.Error("just", told, "texts were told")
	}
}

// P6.2

func TestTidy(t *testing.T) {
	for text, must := range map[string]string{
		"p": "p", "  p ": "p", "((p))": "p", "!(p)": "!p", "! ( ! p )": "!!p", "(X (N (F (G p))))": "X N F G p",
		"p&q": "p & q", "(p&q)|p": "p & q | p", "p&(q|p)": "p & (q | p)", "p->(q->p)": "p -> q -> p", "(p->q)->p": "(p -> q) -> p",
		"(p<->q)<->p": "p <-> q <-> p", "p<->(q<->p)": "p <-> (q <-> p)", "(p)U((q)R(p))": "p U q R p",
		"<({p});(({q}))*>(last)": "<{p} ; {q}*> last", "[({p}+{q})]((p))": "[{p} + {q}] p", "<(?(p))*>true": "<?p*> true", "<?(!p)>(false)": "<?!p> false", "<{(p)}>(p&q)": "<{p}> (p & q)",
		"G(p->F q)": "G (p -> F q)", "(<{p}>q)&p": "<{p}> q & p",
		strings.Repeat("(", 2047) + "q" + strings.Repeat(")", 2047): "q",
	} {
		tidy(t, text, must)
		tidy(t, must, must)
	}
}

func TestTidysFaults(t *testing.T) {
	noTidy(t, "", api.ErrParse, 0)
	noTidy(t, "  ", api.ErrParse, 2)
	noTidy(t, "p q", api.ErrParse, 2)
	noTidy(t, "(p", api.ErrParse, 2)
	noTidy(t, "p &", api.ErrParse, 3)
	noTidy(t, "p & r", api.ErrMissing, 4)
	noTidy(t, "r", api.ErrMissing, 0)
	noTidy(t, "p #", api.ErrWord, 2)
	noTidy(t, "<{X p}> q", api.ErrForm, -1)
	noTidy(t, "{p}", api.ErrParse, 0)
	noTidy(t, strings.Repeat("!", 64)+"p", api.ErrDeep, -1)
	noTidy(t, strings.Repeat("p&", 256)+"p", api.ErrLong, -1)
	noTidy(t, strings.Repeat(" ", 4096)+"p", api.ErrLong, -1)
	noTidy(t, strings.Repeat(" ", 4097), api.ErrLong, -1)
	tidy(t, strings.Repeat(" ", 4095)+"p", "p")
	for _, s := range []string{"", "p", "r", "p q", "#", "(p", "<{last}> q", "p U q", "X"} {
		_, must := parse.Formula(pq, s)
		if _, f := show.Tidy(pq, s); f != must {
			t.Error(s, f, must)
		}
	}
}

func TestTidysLongTexts(t *testing.T) {
	for n := 4090; n < 4103; n++ {
		text, _ := say(longNames, sized(n), false)
		tight := strings.ReplaceAll(text, " ", "")
		s, f := show.Tidy(longNames, tight)
		if n <= 4096 && (s != text || f != (api.Fault{})) || n > 4096 && (s != "" || f != (api.Fault{Err: api.ErrLong, At: -1})) {
			t.Error(n, s, f)
		}
	}
}

// P6.3

// holds asks of a part that its text is read again as it was, and that no pair of brackets can be left out.
func holds(t *testing.T, names []string, l []api.Tok, path bool) {
	t.Helper()
	s, err := teller(path)(names, l)
	if err != api.OK {
		t.Fatal(l, err)
	}
	if !reads(names, s, l, path) {
		t.Fatalf("%q is not read as %v", s, l)
	}
	for _, pair := range pairs(s) {
		if reads(names, without(s, pair), l, path) {
			t.Fatalf("of %q brackets can be left out: %q", s, without(s, pair))
		}
	}
	if !path {
		if again, f := show.Tidy(names, s); again != s || f != (api.Fault{}) {
			t.Fatalf("Tidy of %q = %q %v", s, again, f)
		}
	}
}

func TestReadAgain(t *testing.T) {
	chance := rand.New(rand.NewSource(63))
	for i := range 4000 {
		path := i%3 == 0
		l := grow(chance, chance.Intn(70), path, false)
		if _, err := teller(path)(pq, l); err == api.OK {
			holds(t, pq, l, path)
		}
	}
	holds(t, longNames, sized(4096), false)
	holds(t, pq, balanced(256), false)
	holds(t, nil, tokens("True Last Until"), false)
	holds(t, nil, tokens("True Step Star"), true)
}

func TestAsFewBracketsAsMayBe(t *testing.T) {
	chance := rand.New(rand.NewSource(630))
	for i := range 2000 {
		path := i%3 == 0
		l := grow(chance, chance.Intn(16), path, false)
		full, _ := say(pq, l, true)
		must := bare(pq, full, l, path)
		if s, err := teller(path)(pq, l); s != must || err != api.OK {
			t.Fatalf("of %v: %q %d, not %q", l, s, err, must)
		}
		if path {
			continue
		}
		for _, text := range []string{full, must, " ( " + full + ")"} {
			if s, f := show.Tidy(pq, text); s != must || f != (api.Fault{}) {
				t.Fatalf("Tidy of %q = %q %v, not %q", text, s, f, must)
			}
		}
	}
}

// P1, and the rules that hold everywhere

func TestCallsAreCalm(t *testing.T) {
	chance := rand.New(rand.NewSource(60))
	for range 30000 {
		l := make([]api.Tok, chance.Intn(9))
		for i := range l {
			l[i] = vocabulary()[chance.Intn(len(vocabulary()))]
			if chance.Intn(40) == 0 {
				l[i] = api.Tok{Op: api.Op(chance.Intn(256)), P: uint8(chance.Intn(256))}
			}
		}
		ask(t, pq, l)
	}
	for _, names := range [][]string{nil, {""}, {"\xff"}, {"p", "q"}, slices.Repeat([]string{"p"}, 1000), {strings.Repeat("p", 100000)}} {
		for _, l := range [][]api.Tok{nil, tokens("P0"), tokens("P0 Step"), make([]api.Tok, 100000)} {
			ask(t, names, l)
		}
		for _, s := range []string{"", "p", "{p}", "\x00", strings.Repeat("p&", 100000)} {
			_, must := parse.Formula(names, s)
			if _, f := show.Tidy(names, s); f != must {
				t.Errorf("%.9q %v %v", s, f, must)
			}
		}
	}
	const often = "<->-> ()[]{}!?&|+;*XNFGUR p q r true false last 01P#\xff"
	for range 20000 {
		b := make([]byte, chance.Intn(12))
		for i := range b {
			b[i] = often[chance.Intn(len(often))]
		}
		l, must := parse.Formula(pq, string(b))
		text, _ := want(pq, l, false)
		if s, f := show.Tidy(pq, string(b)); s != text || f != must {
			t.Fatalf("Tidy of %q = %q %v", b, s, f)
		}
	}
}

func TestNothingHandedInIsChanged(t *testing.T) {
	names := strings.Fields("p q r s t u v w x y")
	room := tokens("P0 P1 Until Not P0 Step Star P1 Over And And And")
	namesWere, roomWas := slices.Clone(names), slices.Clone(room)
	for i := range room {
		for j := i; j <= len(room); j++ {
			ask(t, names[:2], room[i:j])
			if !slices.Equal(names, namesWere) || !slices.Equal(room, roomWas) {
				t.Fatal(i, j, names, room)
			}
		}
	}
	if s, err := show.Formula(names[:2], tokens("P2")); s != "" || err != api.ErrArg {
		t.Error("names in the spare room are none:", s, err)
	}
	for _, s := range []string{"p U q", "r", "(p", "#"} {
		show.Tidy(names[:2], s)
		if !slices.Equal(names, namesWere) {
			t.Error(s, names)
		}
	}
}

// lies tells whether a text lies in another one's bytes.
func lies(s, in string) bool {
	at, begin := uintptr(unsafe.Pointer(unsafe.StringData(s))), uintptr(unsafe.Pointer(unsafe.StringData(in)))
	return begin <= at && at < begin+uintptr(len(in))
}

func TestTextsAreNotWhatWasHandedIn(t *testing.T) {
	names := []string{strings.Clone("someone"), strings.Clone("another")}
	for i, name := range names {
		if s, err := show.Formula(names, []api.Tok{{Op: api.Prop, P: uint8(i)}}); s != name || err != api.OK || lies(s, name) {
			t.Error(s, err)
		}
		text := strings.Clone(name)
		if s, f := show.Tidy(names, text); s != name || f != (api.Fault{}) || lies(s, name) || lies(s, text) {
			t.Error(s, f)
		}
	}
}

func TestAnswersHangOnArgumentsAlone(t *testing.T) {
	for range 3 {
		formula(t, "P0 P1 And P0 Until", "(p & q) U p")
		noFormula(t, "P0 P1", api.ErrForm)
		noFormula(t, "More", api.ErrShow)
		path(t, "P0 Step Star", "{p}*")
		noPath(t, "P2 Step", api.ErrArg)
		tidy(t, "((p))", "p")
		noTidy(t, "((p)", api.ErrParse, 4)
	}
	done := make(chan string)
	for i := range 8 {
		go func() {
			s, err := show.Formula(pq, tokens("P0"+strings.Repeat(" Not", i)))
			done <- fmt.Sprint(s == strings.Repeat("!", i)+"p", err)
		}()
	}
	for range 8 {
		if got := <-done; got != fmt.Sprint(true, api.OK) {
			t.Error(got)
		}
	}
}

func TestTextsAreWords(t *testing.T) {
	chance := rand.New(rand.NewSource(64))
	for range 500 {
		l := grow(chance, chance.Intn(50), false, false)
		if s, err := show.Formula(pq, l); err == api.OK {
			if _, f := lexis.Words(s); f != (api.Fault{}) || s != strings.TrimSpace(s) || strings.Contains(s, "  ") {
				t.Fatalf("%q %v", s, f)
			}
		}
	}
}
