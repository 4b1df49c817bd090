package mean_test

import (
	"fmt"
	"math"
	"math/rand"
	"slices"
	"strconv"
	"strings"
	"testing"

	"rejoinder/api"
	"rejoinder/mean"
	"rejoinder/term"
)

// opNames tells tokens as the document writes them, by Op.
var opNames = strings.Fields("True False Prop Last More Over Not Next Weak Finally Globally And Or Imp Iff Until Release Dia Box Step Test Plus Seq Star")

// tokens reads tokens, of which one may be said so many times: Not*63.
func tokens(s string) []api.Tok {
	var l []api.Tok
	for _, word := range strings.Fields(s) {
		w, times, _ := strings.Cut(word, "*")
		n := 1
		if times != "" {
			n, _ = strconv.Atoi(times)
		}
		op := slices.Index(opNames, w)
		switch {
		case len(w) == 2 && w[0] == 'P':
			l = append(l, slices.Repeat([]api.Tok{{Op: api.Prop, P: w[1] - '0'}}, n)...)
		case op >= 0:
			l = append(l, slices.Repeat([]api.Tok{{Op: api.Op(op)}}, n)...)
		default:
			panic("no token: " + word)
		}
	}
	return l
}

// letters reads a trace of letters as numbers.
func letters(s string) []api.Letter {
	var t []api.Letter
	for _, w := range strings.Fields(s) {
		n, err := strconv.Atoi(w)
		if err != nil {
			panic(err)
		}
		t = append(t, api.Letter(n))
	}
	return t
}

// told tells values as noughts and ones.
func told(values []bool) string {
	s := ""
	for _, is := range values {
		if is {
			s += "1"
		} else {
			s += "0"
		}
	}
	return s
}

// The tests work out what is so from the tokens' end, by functions that call themselves, with the chapter's words: some, each, from, below.

// tree is a part: a token, and what it takes.
type tree struct {
	tok  api.Tok
	kids []tree
}

// takes tells how many parts a token takes.
func takes(op api.Op) int {
	switch {
	case op <= api.Over:
		return 0
	case op <= api.Globally || op == api.Step || op == api.Test || op == api.Star:
		return 1
	}
	return 2
}

// fromBack reads the part of the last token, and tells what stands ahead of it.
func fromBack(l []api.Tok) (tree, []api.Tok) {
	x := tree{tok: l[len(l)-1]}
	l = l[:len(l)-1]
	for range takes(x.tok.Op) {
		var kid tree
		kid, l = fromBack(l)
		x.kids = append([]tree{kid}, x.kids...)
	}
	return x, l
}

// some tells whether something is so of a number from a on below b.
func some(a, b int, is func(int) bool) bool {
	for j := a; j < b; j++ {
		if is(j) {
			return true
		}
	}
	return false
}

// each tells whether something is so of each number from a on below b.
func each(a, b int, is func(int) bool) bool {
	return !some(a, b, func(j int) bool { return !is(j) })
}

// values tells where a formula is satisfied, with the chapter's words.
func (x tree) values(t []api.Letter) []bool {
	n := len(t)
	var parts [][]bool
	var ways [][]int
	for _, kid := range x.kids {
		if kid.tok.Op >= api.Step {
			ways = kid.ways(t)
		} else {
			parts = append(parts, kid.values(t))
		}
	}
	at := func(k int) func(int) bool { return func(j int) bool { return parts[k][j] } }
	made := make([]bool, n+1)
	for i := range n + 1 {
		is := false
		switch x.tok.Op {
		case api.True:
			is = true
		case api.Prop:
			is = i < n && int(t[i])/(1<<x.tok.P)%2 == 1
		case api.Last:
			is = i+1 == n
		case api.More:
			is = i < n
		case api.Over:
			is = i == n
		case api.Not:
			is = !parts[0][i]
		case api.And:
			is = parts[0][i] && parts[1][i]
		case api.Or:
			is = parts[0][i] || parts[1][i]
		case api.Imp:
			is = !parts[0][i] || parts[1][i]
		case api.Iff:
			is = parts[0][i] && parts[1][i] || !parts[0][i] && !parts[1][i]
		case api.Next:
			is = i+1 < n && parts[0][i+1]
		case api.Weak:
			is = !(i+1 < n) || parts[0][i+1]
		case api.Finally:
			is = some(i, n, at(0))
		case api.Globally:
			is = each(i, n, at(0))
		case api.Until:
			is = some(i, n, func(j int) bool { return parts[1][j] && each(i, j, at(0)) })
		case api.Release:
			is = each(i, n, func(j int) bool { return parts[1][j] || some(i, j, at(0)) })
		case api.Dia:
			is = slices.ContainsFunc(ways[i], at(0))
		case api.Box:
			is = !slices.ContainsFunc(ways[i], func(j int) bool { return !parts[0][j] })
		}
		made[i] = is
	}
	return made
}

// ways tells where ways of a path end, from each place, with the chapter's words.
func (x tree) ways(t []api.Letter) [][]int {
	n := len(t)
	made := make([][]int, n+1)
	switch x.tok.Op {
	case api.Step, api.Test:
		for i, is := range x.kids[0].values(t) {
			if is && x.tok.Op == api.Test {
				made[i] = []int{i}
			} else if is && i < n {
				made[i] = []int{i + 1}
			}
		}
		return made
	}
	first := x.kids[0].ways(t)
	second := first
	if len(x.kids) == 2 {
		second = x.kids[1].ways(t)
	}
	for i := range made {
		var met []int
		switch x.tok.Op {
		case api.Plus:
			met = slices.Concat(first[i], second[i])
		case api.Seq:
			for _, j := range first[i] {
				met = append(met, second[j]...)
			}
		case api.Star:
			met = []int{i}
			for k := 0; k < len(met); k++ {
				for _, j := range first[met[k]] {
					if !slices.Contains(met, j) {
						met = append(met, j)
					}
				}
			}
		}
		slices.Sort(met)
		made[i] = slices.Compact(met)
	}
	return made
}

// ask asks all calls of tokens, a trace that may be, and all places, some wrong, and holds the answers against the chapter's words. It tells whether the tokens were taken.
func ask(t *testing.T, l []api.Tok, trace []api.Letter) bool {
	t.Helper()
	must, ways := term.Check(l), term.Path(l)
	var values []bool
	var rows [][]int
	if must == api.OK {
		x, _ := fromBack(l)
		values = x.values(trace)
	}
	if ways == api.OK {
		x, _ := fromBack(l)
		rows = x.ways(trace)
	}
	got, err := mean.All(l, trace)
	if !slices.Equal(got, values) || err != must {
		t.Fatalf("All of %v, %v = %v %d, not %v %d", l, trace, got, err, values, must)
	}
	sat := must
	if must == api.OK && len(trace) == 0 {
		sat = api.ErrArg
	}
	if is, err := mean.Sat(l, trace); is != (sat == api.OK && values[0]) || err != sat {
		t.Fatalf("Sat of %v, %v = %v %d", l, trace, is, err)
	}
	for i := -2; i <= len(trace)+2; i++ {
		out := i < 0 || i > len(trace)
		at, ends := must, ways
		if must == api.OK && out {
			at = api.ErrArg
		}
		if ways == api.OK && out {
			ends = api.ErrArg
		}
		if is, err := mean.At(l, trace, i); is != (at == api.OK && values[i]) || err != at {
			t.Fatalf("At of %v, %v, %d = %v %d", l, trace, i, is, err)
		}
		var row []int
		if ends == api.OK {
			row = rows[i]
		}
		if got, err := mean.Ends(l, trace, i); !slices.Equal(got, row) || err != ends {
			t.Fatalf("Ends of %v, %v, %d = %v %d, not %v %d", l, trace, i, got, err, row, ends)
		}
	}
	return must == api.OK || ways == api.OK
}

// formula asks where a formula is satisfied, told as noughts and ones.
func formula(t *testing.T, toks, trace, must string) {
	t.Helper()
	l, tr := tokens(toks), letters(trace)
	if got, err := mean.All(l, tr); told(got) != must || err != api.OK {
		t.Errorf("All of %s, %q = %s %d, not %s", toks, trace, told(got), err, must)
	}
	for i := range must {
		if is, err := mean.At(l, tr, i); is != (must[i] == '1') || err != api.OK {
			t.Errorf("At of %s, %q, %d = %v %d", toks, trace, i, is, err)
		}
	}
	if is, err := mean.Sat(l, tr); len(tr) > 0 && (is != (must[0] == '1') || err != api.OK) {
		t.Errorf("Sat of %s, %q = %v %d", toks, trace, is, err)
	}
	ask(t, l, tr)
}

// path asks where the ways of a path end, from each place, told as "0 1|1|".
func path(t *testing.T, toks, trace, must string) {
	t.Helper()
	l, tr := tokens(toks), letters(trace)
	rows := strings.Split(must, "|")
	if len(rows) != len(tr)+1 {
		t.Fatal("the test has not a row a place:", toks, must)
	}
	for i, row := range rows {
		got, err := mean.Ends(l, tr, i)
		if s := fmt.Sprint(got); s != "["+row+"]" || err != api.OK {
			t.Errorf("Ends of %s, %q, %d = %s %d, not [%s]", toks, trace, i, s, err, row)
		}
	}
	ask(t, l, tr)
}

// noFormula asks All, At and Sat, which must refuse.
func noFormula(t *testing.T, l []api.Tok, trace []api.Letter, must api.Errno) {
	t.Helper()
	if got, err := mean.All(l, trace); got != nil || err != must {
		t.Errorf("All of %d tokens, %d letters = %v %d, not %d", len(l), len(trace), got, err, must)
	}
	for _, i := range []int{0, len(trace), -1, len(trace) + 1} {
		if is, err := mean.At(l, trace, i); is || err != must {
			t.Errorf("At of %d tokens, %d letters, %d = %v %d, not %d", len(l), len(trace), i, is, err, must)
		}
	}
	if is, err := mean.Sat(l, trace); is || err != must {
		t.Errorf("Sat of %d tokens, %d letters = %v %d, not %d", len(l), len(trace), is, err, must)
	}
}

// noPath asks Ends, which must refuse.
func noPath(t *testing.T, l []api.Tok, trace []api.Letter, must api.Errno) {
	t.Helper()
	for _, i := range []int{0, len(trace), -1, len(trace) + 1} {
		if got, err := mean.Ends(l, trace, i); got != nil || err != must {
			t.Errorf("Ends of %d tokens, %d letters, %d = %v %d, not %d", len(l), len(trace), i, got, err, must)
		}
	}
}

// The chapter's examples

func TestExamples(t *testing.T) {
	const trace = "1 2 3"
	formula(t, "P0", trace, "1010")
	formula(t, "P1", trace, "0110")
	formula(t, "P1 Next", trace, "1100")
	formula(t, "P1 Weak", trace, "1111")
	formula(t, "Last", trace, "0010")
	formula(t, "P0 P1 Until", trace, "1110")
	formula(t, "P1 Globally", trace, "0111")
	formula(t, "P0 Finally", trace, "1110")
	path(t, "P0 Step Star", trace, "0 1|1|2 3|3")
	if is, err := mean.Sat(tokens("P0 Step P1 Step Seq Star Over Dia"), letters(trace)); is || err != api.OK {
		t.Error(is, err)
	}
	if is, err := mean.Sat(tokens("P0 P1 Until"), letters(trace)); !is || err != api.OK {
		t.Error(is, err)
	}
	if is, err := mean.Sat(tokens("True"), nil); is || err != api.ErrArg {
		t.Error(is, err)
	}
	if is, err := mean.At(tokens("True"), letters(trace), 4); is || err != api.ErrArg {
		t.Error(is, err)
	}
	if got, err := mean.All(tokens("P0"), nil); told(got) != "0" || err != api.OK {
		t.Error(got, err)
	}
}

func TestExamplesOfTheWhole(t *testing.T) {
	formula(t, "P0 Next", "1", "00")
	formula(t, "P0 Weak", "1", "11")
	formula(t, "P0 Next", "1 1", "100")
	formula(t, "P0 Weak", "1 1", "111")
	for n := range 9 {
		trace := strings.Repeat("0 ", n)
		odd := tokens("True Step True Step Seq Star Last Dia")
		if n > 0 {
			if is, err := mean.Sat(odd, letters(trace)); is != (n%2 == 1) || err != api.OK {
				t.Error(n, is, err)
			}
			if is, err := mean.Sat(tokens("Last Finally"), letters(trace)); !is || err != api.OK {
				t.Error(n, is, err)
			}
		}
	}
	for _, trace := range traces(4, 4) {
		for _, pair := range [][2]string{{"P0 Step Star P1 Dia", "P0 P1 Until"}, {"P0 Finally Globally", "Last P0 And Finally"}} {
			a, _ := mean.Sat(tokens(pair[0]), trace)
			b, _ := mean.Sat(tokens(pair[1]), trace)
			if a != b {
				t.Error(pair, trace, a, b)
			}
		}
	}
}

// P7.2

func TestFormulasOfOneToken(t *testing.T) {
	for _, x := range [][4]string{
		// of no letters, of one, of three
		{"True", "1", "11", "1111"}, {"False", "0", "00", "0000"}, {"More", "0", "10", "1110"}, {"Over", "1", "01", "0001"}, {"Last", "0", "10", "0010"},
		{"P0", "0", "10", "1010"}, {"P1", "0", "00", "0110"}, {"P2", "0", "00", "0000"}, {"P7", "0", "00", "0000"},
	} {
		formula(t, x[0], "", x[1])
		formula(t, x[0], "1", x[2])
		formula(t, x[0], "1 2 3", x[3])
	}
	for p := range 8 {
		word := "P" + strconv.Itoa(p)
		formula(t, word, fmt.Sprint(1<<p), "10")
		formula(t, word, fmt.Sprint(255-1<<p), "00")
		formula(t, word, fmt.Sprint("255 0 ", 1<<p, " ", 255-1<<p), "10100")
	}
}

func TestFormulasOfOne(t *testing.T) {
	for _, x := range [][4]string{
		// of no letters, of 1 0 1 1, of 0 0 1 0
		{"P0 Not", "1", "01001", "11011"},
		{"P0 Next", "0", "01100", "01000"},
		{"P0 Weak", "1", "01111", "01011"},
		{"P0 Finally", "0", "11110", "11100"},
		{"P0 Globally", "1", "00111", "00001"},
		{"Over Next", "0", "00000", "00000"},
		{"More Next", "0", "11100", "11100"},
		{"Over Weak", "1", "00011", "00011"},
		{"False Weak", "1", "00011", "00011"},
		{"True Next", "0", "11100", "11100"},
		{"Over Finally", "0", "00000", "00000"},
		{"Last Finally", "0", "11110", "11110"},
		{"Over Globally", "1", "00001", "00001"},
		{"More Globally", "1", "11111", "11111"},
		{"Last Globally", "1", "00011", "00011"},
		{"Over Not", "0", "11110", "11110"},
		{"P0 Next Next", "0", "11000", "10000"},
		{"P0 Next Not", "1", "10011", "10111"},
		{"P0 Not Next", "0", "10000", "10100"},
		{"P0 Finally Globally", "1", "11111", "00001"},
		{"P0 Globally Finally", "0", "11110", "00000"},
	} {
		formula(t, x[0], "", x[1])
		formula(t, x[0], "1 0 1 1", x[2])
		formula(t, x[0], "0 0 1 0", x[3])
	}
}

func TestFormulasOfTwo(t *testing.T) {
	for _, x := range [][3]string{
		// of no letters, of 0 1 2 3 1 2
		{"P0 P1 And", "0", "0001000"},
		{"P0 P1 Or", "0", "0111110"},
		{"P0 P1 Imp", "1", "1011011"},
		{"P1 P0 Imp", "1", "1101101"},
		{"P0 P1 Iff", "1", "1001001"},
		{"P0 P1 Until", "0", "0111110"},
		{"P1 P0 Until", "0", "0111100"},
		{"P0 P1 Release", "1", "0011011"},
		{"P1 P0 Release", "1", "0001001"},
		{"P0 P1 Not Release", "1", "1100101"},
		{"False P1 Until", "0", "0011010"},
		{"True P1 Until", "0", "1111110"},
		{"True P1 Release", "1", "0011011"},
		{"False P1 Release", "1", "0000011"},
		{"P1 Over Until", "0", "0000000"},
		{"True Over Until", "0", "0000000"},
		{"True Last Until", "0", "1111110"},
		{"Over True Release", "1", "1111111"},
		{"Last More Release", "1", "1111111"},
	} {
		formula(t, x[0], "", x[1])
		formula(t, x[0], "0 1 2 3 1 2", x[2])
	}
	formula(t, "P0 P1 Until", "1 1 1", "0000")
	formula(t, "P0 P1 Until", "1 1 2", "1110")
	formula(t, "P0 P1 Until", "1 0 2", "0010")
	formula(t, "P0 P1 Release", "2 2 2", "1111")
	formula(t, "P0 P1 Release", "2 3 0", "1101")
	formula(t, "P0 P1 Release", "2 1 0", "0001")
}

func TestFormulasOfPaths(t *testing.T) {
	for _, x := range [][3]string{
		// of no letters, of 1 1 2 0
		{"P0 Step P1 Dia", "0", "01000"},
		{"P0 Step P1 Box", "1", "01111"},
		{"P0 Step Over Dia", "0", "00000"},
		{"True Step Over Dia", "0", "00010"},
		{"True Step Over Box", "1", "00011"},
		{"True Step More Box", "1", "11101"},
		{"False Step False Box", "1", "11111"},
		{"False Step True Dia", "0", "00000"},
		{"P0 Test P0 Dia", "0", "11000"},
		{"P0 Test P1 Box", "1", "00111"},
		{"P0 Test False Dia", "0", "00000"},
		{"Over Test True Dia", "1", "00001"},
		{"Over Test False Box", "0", "11110"},
		{"P0 Step Star P1 Dia", "0", "11100"},
		{"P0 Step Star P0 Box", "0", "00000"},
		{"P0 Step Star P1 Not Box", "1", "00011"},
		{"True Step Star Over Dia", "1", "11111"},
		{"True Step Star Over Box", "1", "00001"},
		{"P0 Step P1 Step Plus Last Dia", "0", "00100"},
		{"P0 Step P1 Step Seq Last Dia", "0", "01000"},
		{"P0 Step P1 Step Seq Last Box", "1", "11111"},
		{"P0 Step P0 Step Seq P1 Box", "1", "11111"},
		{"P0 Step P0 Step Seq P0 Box", "1", "01111"},
		{"P1 Step P0 Test Plus P0 Box", "1", "11011"},
	} {
		formula(t, x[0], "", x[1])
		formula(t, x[0], "1 1 2 0", x[2])
	}
}

func TestPathsEnds(t *testing.T) {
	for _, x := range [][3]string{
		// of no letters, of 1 1 2 0
		{"P0 Step", "", "1|2|||"},
		{"True Step", "", "1|2|3|4|"},
		{"False Step", "", "||||"},
		{"P0 Not Step", "", "||3|4|"},
		{"P0 Test", "", "0|1|||"},
		{"True Test", "0", "0|1|2|3|4"},
		{"Over Test", "0", "||||4"},
		{"Last Test", "", "|||3|"},
		{"P0 Not Test", "0", "||2|3|4"},
		{"P0 Step P1 Step Plus", "", "1|2|3||"},
		{"P0 Step True Test Plus", "0", "0 1|1 2|2|3|4"},
		{"P0 Step True Step Plus", "", "1|2|3|4|"},
		{"P0 Step P0 Step Seq", "", "2||||"},
		{"P0 Step P1 Step Seq", "", "|3|||"},
		{"P1 Step P0 Step Seq", "", "||||"},
		{"P0 Step Over Test Seq", "", "||||"},
		{"True Step Over Test Seq", "", "|||4|"},
		{"Over Test True Step Seq", "", "||||"},
		{"P0 Step Star", "0", "0 1 2|1 2|2|3|4"},
		{"True Step Star", "0", "0 1 2 3 4|1 2 3 4|2 3 4|3 4|4"},
		{"False Step Star", "0", "0|1|2|3|4"},
		{"True Step True Step Seq Star", "0", "0 2 4|1 3|2 4|3|4"},
		{"P0 Step P1 Step Seq Star", "0", "0|1 3|2|3|4"},
		{"P0 Step P1 Step Plus Star", "0", "0 1 2 3|1 2 3|2 3|3|4"},
		{"P0 Step Star P1 Step Seq", "", "3|3|3||"},
		{"True Step True Step True Step Seq Seq", "", "3|4|||"},
		{"True Step True Step Seq True Step Plus", "", "1 2|2 3|3 4|4|"},
		{"True Step True Step Seq True Step True Step Seq True Step Seq Plus Star", "0", "0 2 3 4|1 3 4|2 4|3|4"},
	} {
		path(t, x[0], "", x[1])
		path(t, x[0], "1 1 2 0", x[2])
	}
}

func TestStarsOfWaysThatStay(t *testing.T) {
	for _, toks := range []string{"True Test Star", "False Test Star", "P0 Test Star", "Over Test Star", "False Step Star Star", "True Test Star Star", "P0 Test P1 Test Seq Star", "P0 Test P1 Test Plus Star", "P0 Test Star P1 Test Star Seq"} {
		for _, trace := range []string{"", "1", "0 1 2 3"} {
			l := tokens(toks)
			tr := letters(trace)
			for i := range len(tr) + 1 {
				got, err := mean.Ends(l, tr, i)
				if !slices.Equal(got, []int{i}) || err != api.OK {
					t.Error(toks, trace, i, got, err)
				}
			}
			ask(t, l, tr)
			formula(t, toks+" P0 Dia P0 Iff", trace, strings.Repeat("1", len(tr)+1))
			formula(t, toks+" P0 Box P0 Iff", trace, strings.Repeat("1", len(tr)+1))
		}
	}
	// A test beside a step, ahead of one, and behind one.
	path(t, "P0 Test P0 Step Plus Star", "1 1 0", "0 1 2|1 2|2|3")
	path(t, "P0 Test P0 Step Seq Star", "1 1 0", "0 1 2|1 2|2|3")
	path(t, "True Step P0 Test Seq Star", "1 1 0", "0 1|1|2|3")
	path(t, "True Step Star Star", "1 1 0", "0 1 2 3|1 2 3|2 3|3")
	path(t, "True Step Star P0 Test Star Seq Star", "1 1 0", "0 1 2 3|1 2 3|2 3|3")
}

func TestFormulasWithinPathsWithinFormulas(t *testing.T) {
	// q is reached by p; each place from which that is so, a step; then the end.
	formula(t, "P0 Step P1 Dia Test True Step Seq Star Last Dia", "1 3 3 0", "00010")
	formula(t, "P0 Step P1 Dia Test True Step Seq Star P1 Dia", "1 3 3 0", "11100")
	path(t, "P0 Step P1 Dia Test True Step Seq Star", "1 3 3 0", "0 1 2|1 2|2|3|4")
	path(t, "P0 Step Star Last Dia Test", "0 1 1 1", "|1|2|3|")
	path(t, "P0 Step Star Last Dia Test", "1 0 1 0", "||2|3|")
	path(t, "P0 Step Star P1 Box Test P1 Step Seq Star", "2 2 3 1", "0 1 2|1 2|2|3|4")
	formula(t, "P0 Globally Test True Step Seq Star Over Dia", "0 1 1", "0111")
	formula(t, "P0 Step Star P1 Dia Next Test P1 Box", "1 2 1 2", "01011")
	formula(t, "True Step True Step Star Over Dia Test Seq P0 Dia Not", "1 0 1", "1011")
}

// traces tells all traces of up to so many letters, of the letters below many.
func traces(long, many int) [][]api.Letter {
	all := [][]api.Letter{nil}
	last := all
	for range long {
		var longer [][]api.Letter
		for _, t := range last {
			for l := range many {
				longer = append(longer, append(slices.Clone(t), api.Letter(l)))
			}
		}
		all = append(all, longer...)
		last = longer
	}
	return all
}

// parts tells all parts of so many tokens, by kind: plain formulas, all formulas, paths.
type parts struct{ plain, all, paths [][][]api.Tok }

func (p *parts) grow(n int) {
	var plain, all, paths [][]api.Tok
	one := func(made [][]api.Tok, of [][]api.Tok, ops string) [][]api.Tok {
		for _, op := range tokens(ops) {
			for _, a := range of {
				made = append(made, append(slices.Clone(a), op))
			}
		}
		return made
	}
	two := func(made [][]api.Tok, first, second [][][]api.Tok, ops string) [][]api.Tok {
		for k := 1; k < n-1; k++ {
			for _, a := range first[k] {
				made = one(made, prefixed(a, second[n-1-k]), ops)
			}
		}
		return made
	}
	if n == 1 {
		plain = one(nil, [][]api.Tok{nil}, "P0 P1 True False")
		all = one(plain, [][]api.Tok{nil}, "Last More Over")
	} else {
		plain = two(one(nil, p.plain[n-1], "Not"), p.plain, p.plain, "And Or Imp Iff")
		all = two(one(nil, p.all[n-1], "Not Next Weak Finally Globally"), p.all, p.all, "And Or Imp Iff Until Release")
		all = two(all, p.paths, p.all, "Dia Box")
		paths = one(one(one(nil, p.plain[n-1], "Step"), p.all[n-1], "Test"), p.paths[n-1], "Star")
		paths = two(paths, p.paths, p.paths, "Plus Seq")
	}
	p.plain, p.all, p.paths = append(p.plain, plain), append(p.all, all), append(p.paths, paths)
}

// prefixed puts tokens ahead of each list.
func prefixed(a []api.Tok, lists [][]api.Tok) [][]api.Tok {
	var made [][]api.Tok
	for _, l := range lists {
		made = append(made, slices.Concat(a, l))
	}
	return made
}

func TestEveryShortPart(t *testing.T) {
	p := parts{plain: make([][][]api.Tok, 1), all: make([][][]api.Tok, 1), paths: make([][][]api.Tok, 1)}
	asked := 0
	for n := 1; n <= 4; n++ {
		p.grow(n)
		some := traces(3, 4)
		if n == 4 {
			some = append(traces(2, 2), letters("0 1 2"), letters("3 1 0"), letters("2 3 1 0"))
		}
		for _, l := range slices.Concat(p.all[n], p.paths[n]) {
			for _, trace := range some {
				if !ask(t, l, trace) {
					t.Fatal(l, "was refused")
				}
				asked++
			}
		}
	}
	if asked < 50000 {
		t.Error("just", asked, "were asked")
	}
}

// grow tells a part by chance, of about n tokens.
func grow(chance *rand.Rand, n int, path, plain bool) []api.Tok {
	pick := func(s string) api.Tok {
		all := tokens(s)
		return all[chance.Intn(len(all))]
	}
	some := chance.Intn(max(n-1, 1))
	switch {
	case path && n < 3:
		return append(grow(chance, 1, false, true), pick("Step Step Test"))
	case path:
		switch chance.Intn(6) {
		case 0:
			return append(grow(chance, n-1, false, true), pick("Step"))
		case 1:
			return append(grow(chance, n-1, false, false), pick("Test"))
		case 2, 3:
			return append(grow(chance, n-1, true, false), pick("Star"))
		}
		return slices.Concat(grow(chance, some, true, false), grow(chance, n-1-some, true, false), []api.Tok{pick("Plus Seq")})
	case n < 2 && plain:
		return []api.Tok{pick("P0 P1 P2 True False")}
	case n < 2:
		return []api.Tok{pick("P0 P1 P2 True False Last More Over")}
	case plain && chance.Intn(4) == 0:
		return append(grow(chance, n-1, false, true), pick("Not"))
	case plain:
		return slices.Concat(grow(chance, some, false, true), grow(chance, n-1-some, false, true), []api.Tok{pick("And Or Imp Iff")})
	}
	switch chance.Intn(6) {
	case 0, 1:
		return append(grow(chance, n-1, false, false), pick("Not Next Weak Finally Globally"))
	case 2, 3:
		return slices.Concat(grow(chance, some, true, false), grow(chance, n-1-some, false, false), []api.Tok{pick("Dia Box")})
	}
	return slices.Concat(grow(chance, some, false, false), grow(chance, n-1-some, false, false), []api.Tok{pick("And Or Imp Iff Until Release")})
}

// anyTrace tells a trace by chance, of three propositions.
func anyTrace(chance *rand.Rand, n int) []api.Letter {
	t := make([]api.Letter, n)
	for i := range t {
		t[i] = api.Letter(chance.Intn(8))
	}
	return t
}

func TestGrownParts(t *testing.T) {
	chance := rand.New(rand.NewSource(7))
	taken := 0
	for i := range 4000 {
		l := grow(chance, chance.Intn(40), i%3 == 0, false)
		for range 3 {
			if ask(t, l, anyTrace(chance, chance.Intn(9))) {
				taken++
			}
		}
	}
	if taken < 9000 {
		t.Error("just", taken, "were taken")
	}
}

func TestTracesOfManyLetters(t *testing.T) {
	chance := rand.New(rand.NewSource(70))
	for _, n := range []int{61, 62, 63, 64, 65, 66, 126, 127, 128, 129, 130, 190, 200} {
		for i := range 6 {
			ask(t, grow(chance, 5+chance.Intn(20), i%2 == 0, false), anyTrace(chance, n))
		}
		ask(t, tokens("True Step Star"), anyTrace(chance, n))
		ask(t, tokens("True Step True Step Seq Star"), anyTrace(chance, n))
		ask(t, tokens("P0 P1 Or Step Star"), anyTrace(chance, n))
		ask(t, tokens("P0 Step P0 Step P1 Step Seq Plus Star"), anyTrace(chance, n))
	}
}

// count tells the numbers from a on up to b, in steps.
func count(a, b, step int) []int {
	var l []int
	for ; a <= b; a += step {
		l = append(l, a)
	}
	return l
}

func TestTheLongestTrace(t *testing.T) {
	trace := slices.Repeat([]api.Letter{1}, 1024)
	trace[1023] = 3
	trace[511] = 255
	for _, x := range []struct {
		toks       string
		at         int
		must, last bool
	}{
		{"P0 Globally", 0, true, true}, {"P1 Finally", 0, true, false}, {"P0 P1 Not And Globally", 512, false, true}, {"P7 Finally", 511, true, false}, {"P7 Finally", 512, false, false},
		{"P0 P7 Until", 0, true, false}, {"P7 P0 Release", 0, true, true}, {"True Step Star Over Dia", 0, true, true}, {"P7 Not Step Star Over Dia", 0, false, true}, {"P7 Not Step Star Over Dia", 512, true, true},
		{"True Step Star P0 Box", 0, false, false}, {"True Step Star P0 Over Or Box", 0, true, true},
	} {
		all, err := mean.All(tokens(x.toks), trace)
		if len(all) != 1025 || err != api.OK || all[x.at] != x.must || all[1024] != x.last {
			t.Error(x.toks, len(all), err)
			continue
		}
		if is, err := mean.At(tokens(x.toks), trace, x.at); is != x.must || err != api.OK {
			t.Error(x.toks, is, err)
		}
		if is, err := mean.At(tokens(x.toks), trace, 1024); is != x.last || err != api.OK {
			t.Error(x.toks, is, err)
		}
		if is, err := mean.At(tokens(x.toks), trace, 1025); is || err != api.ErrArg {
			t.Error(x.toks, is, err)
		}
	}
	for _, x := range []struct {
		toks string
		at   int
		must []int
	}{
		{"True Step Star", 0, count(0, 1024, 1)}, {"True Step Star", 700, count(700, 1024, 1)}, {"True Step True Step Seq Star", 1, count(1, 1023, 2)},
		{"P7 Not Step Star", 0, count(0, 511, 1)}, {"P7 Not Step Star", 600, count(600, 1024, 1)}, {"True Step Star", 1024, []int{1024}}, {"True Step", 1024, nil}, {"True Step Star P7 Step Seq", 3, []int{512}},
	} {
		if got, err := mean.Ends(tokens(x.toks), trace, x.at); !slices.Equal(got, x.must) || err != api.OK {
			t.Error(x.toks, x.at, got, err)
		}
	}
}

func TestTheLongestFormulas(t *testing.T) {
	trace := slices.Repeat([]api.Letter{0, 1, 3}, 341)
	// Seqs of n Stars, nested as little as may be.
	var seqs func(n int) []api.Tok
	seqs = func(n int) []api.Tok {
		if n == 1 {
			return tokens("P1 Not Step Star")
		}
		return slices.Concat(seqs(n/2), seqs(n-n/2), tokens("Seq"))
	}
	l := seqs(100)
	if got, err := mean.Ends(l, trace, 3); !slices.Equal(got, []int{3, 4, 5}) || err != api.OK {
		t.Error(got, err)
	}
	stars := tokens("True Step Star*62")
	if got, err := mean.Ends(stars, trace, 0); !slices.Equal(got, count(0, 1023, 1)) || err != api.OK {
		t.Error(len(got), err)
	}
	if is, err := mean.Sat(tokens("P0 Next*62"), trace); !is || err != api.OK {
		t.Error(is, err)
	}
	if is, err := mean.Sat(tokens("P0 Next*63"), trace); is || err != api.OK {
		t.Error(is, err)
	}
	if is, err := mean.Sat(tokens("P0 Not*63"), trace); !is || err != api.OK {
		t.Error(is, err)
	}
}

// P7.1

func TestTokensThatAreRefused(t *testing.T) {
	trace := letters("1 2 3")
	for _, toks := range []string{"", "And", "P0 P1", "P0 And", "Not", "P0 Step P1", "P0 P1 Dia", "P0 Step P1 Step Dia", "P0 Step Not", "P0 Next Step P1 Dia", "P0 Star P1 Dia", "P0 P1 Seq", "Last Step P1 Dia", "More Step P1 Box", "P0 P1 Until P0"} {
		for _, tr := range [][]api.Letter{nil, trace} {
			noFormula(t, tokens(toks), tr, api.ErrForm)
			noPath(t, tokens(toks), tr, api.ErrForm)
		}
	}
	for _, toks := range []string{"P0 Step", "P0 Test", "P0 Step Star", "P0 Step P1 Test Seq", "P0 Step P1 Test Plus"} {
		noFormula(t, tokens(toks), trace, api.ErrForm)
	}
	for _, toks := range []string{"P0", "True", "P0 Not", "P0 P1 Until", "P0 Step P1 Dia", "P0 Step P1 Box"} {
		noPath(t, tokens(toks), trace, api.ErrForm)
	}
	for _, tok := range []api.Tok{{Op: api.Prop, P: 8}, {Op: api.Prop, P: 255}, {Op: api.True, P: 1}, {Op: api.Last, P: 7}, {Op: 24}, {Op: 255, P: 255}} {
		noFormula(t, []api.Tok{tok}, trace, api.ErrForm)
		noPath(t, []api.Tok{tok}, trace, api.ErrForm)
		noPath(t, []api.Tok{tok, {Op: api.Step}}, trace, api.ErrForm)
		noFormula(t, []api.Tok{tok, {Op: api.Not}}, trace, api.ErrForm)
	}
	noFormula(t, tokens("P0 Not*64"), trace, api.ErrDeep)
	noFormula(t, tokens("P0 Not*511"), trace, api.ErrDeep)
	noFormula(t, tokens("P0 Not*512"), trace, api.ErrLong)
	noFormula(t, tokens("P0*513"), trace, api.ErrLong)
	noFormula(t, tokens("P0*512"), trace, api.ErrForm)
	noPath(t, tokens("P0 Step Star*63"), trace, api.ErrDeep)
	noPath(t, tokens("P0 Step Star*510"), trace, api.ErrDeep)
	noPath(t, tokens("P0 Step Star*511"), trace, api.ErrLong)
	noPath(t, tokens("P0*513"), trace, api.ErrLong)
	noPath(t, tokens("P0*512"), trace, api.ErrForm)
}

func TestTracesThatAreRefused(t *testing.T) {
	for _, n := range []int{1025, 1026, 5000} {
		noFormula(t, tokens("True"), make([]api.Letter, n), api.ErrLong)
		noPath(t, tokens("True Step"), make([]api.Letter, n), api.ErrLong)
	}
	long := make([]api.Letter, 1024)
	if got, err := mean.All(tokens("More"), long); len(got) != 1025 || err != api.OK {
		t.Error(len(got), err)
	}
	// Each letter is one of 8 propositions.
	for l := range 256 {
		ask(t, tokens("P7 P0 Until"), []api.Letter{api.Letter(l), 255, api.Letter(l)})
		ask(t, tokens("P7 P3 Or Step Star"), []api.Letter{api.Letter(l), 255, api.Letter(l)})
	}
}

func TestPlacesThatAreRefused(t *testing.T) {
	for n := range 5 {
		trace := make([]api.Letter, n)
		for _, i := range []int{-1, -2, -n - 1, n + 1, n + 2, 64, 1025, math.MinInt, math.MaxInt, math.MinInt + 1, 1 << 32, -1 << 32} {
			if is, err := mean.At(tokens("True"), trace, i); is || err != api.ErrArg {
				t.Error(n, i, is, err)
			}
			if got, err := mean.Ends(tokens("True Step Star"), trace, i); got != nil || err != api.ErrArg {
				t.Error(n, i, got, err)
			}
		}
		for i := range n + 1 {
			if is, err := mean.At(tokens("True"), trace, i); !is || err != api.OK {
				t.Error(n, i, is, err)
			}
			if got, err := mean.Ends(tokens("True Test"), trace, i); !slices.Equal(got, []int{i}) || err != api.OK {
				t.Error(n, i, got, err)
			}
		}
	}
}

func TestSatOfNoLetters(t *testing.T) {
	for _, toks := range []string{"True", "False", "Over", "P0", "P0 Globally", "P0 Step Star True Dia"} {
		for _, trace := range [][]api.Letter{nil, {}, make([]api.Letter, 0, 5)} {
			if is, err := mean.Sat(tokens(toks), trace); is || err != api.ErrArg {
				t.Error(toks, is, err)
			}
			if _, err := mean.All(tokens(toks), trace); err != api.OK {
				t.Error(toks, err)
			}
			if _, err := mean.At(tokens(toks), trace, 0); err != api.OK {
				t.Error(toks, err)
			}
		}
	}
}

func TestOrderOfErrors(t *testing.T) {
	long := make([]api.Letter, 1025)
	// The tokens' error is told ahead of the trace's and of the place's; noFormula and noPath ask of wrong places too.
	for toks, must := range map[string]api.Errno{"P0 And": api.ErrForm, "P0 Not*64": api.ErrDeep, "P0*513": api.ErrLong, "P0 Step Star*63 Not": api.ErrForm} {
		noFormula(t, tokens(toks), long, must)
		noFormula(t, tokens(toks), nil, must)
	}
	for toks, must := range map[string]api.Errno{"P0 Plus": api.ErrForm, "P0 Step Star*63": api.ErrDeep, "P0*513": api.ErrLong} {
		noPath(t, tokens(toks), long, must)
		noPath(t, tokens(toks), nil, must)
	}
	noFormula(t, tokens("P0"), long, api.ErrLong)
	noPath(t, tokens("P0 Step"), long, api.ErrLong)
	if is, err := mean.Sat(tokens("P0 And"), nil); is || err != api.ErrForm {
		t.Error(is, err)
	}
}

// P7.3

// all tells All's answer of tokens that are put together.
func all(t *testing.T, trace []api.Letter, pieces ...[]api.Tok) []bool {
	t.Helper()
	got, err := mean.All(slices.Concat(pieces...), trace)
	if err != api.OK || len(got) != len(trace)+1 {
		t.Fatal(pieces, trace, got, err)
	}
	return got
}

// flip tells the values of the negation.
func flip(values []bool) []bool {
	made := make([]bool, len(values))
	for i, is := range values {
		made[i] = !is
	}
	return made
}

// sameValues tells that two lists of values must be the same.
func sameValues(t *testing.T, what string, a, b []bool) {
	t.Helper()
	if !slices.Equal(a, b) {
		t.Fatal(what, told(a), told(b))
	}
}

// forms tells formulas and paths by chance, with traces: each is handed on.
func forms(seed int64, times int, with func(a, b, p, q []api.Tok, plain []api.Tok, trace []api.Letter)) {
	chance := rand.New(rand.NewSource(seed))
	for range times {
		a, b := grow(chance, chance.Intn(12), false, false), grow(chance, chance.Intn(12), false, false)
		p, q := grow(chance, chance.Intn(12), true, false), grow(chance, chance.Intn(12), true, false)
		with(a, b, p, q, grow(chance, chance.Intn(6), false, true), anyTrace(chance, chance.Intn(8)))
	}
}

func TestWordsByTheOthers(t *testing.T) {
	w := func(s string) []api.Tok { return tokens(s) }
	forms(73, 1500, func(a, b, p, _, _ []api.Tok, trace []api.Letter) {
		n := len(trace)
		sameValues(t, "Not", all(t, trace, a, w("Not")), flip(all(t, trace, a)))
		sameValues(t, "Finally", all(t, trace, a, w("Finally")), all(t, trace, w("True"), a, w("Until")))
		sameValues(t, "Globally", all(t, trace, a, w("Globally")), all(t, trace, w("False"), a, w("Release")))
		sameValues(t, "Weak", all(t, trace, a, w("Weak")), flip(all(t, trace, a, w("Not Next"))))
		sameValues(t, "Release", all(t, trace, a, b, w("Release")), flip(all(t, trace, a, w("Not"), b, w("Not Until"))))
		sameValues(t, "Box", all(t, trace, p, a, w("Box")), flip(all(t, trace, p, a, w("Not Dia"))))
		sameValues(t, "Imp", all(t, trace, a, b, w("Imp")), all(t, trace, a, w("Not"), b, w("Or")))
		sameValues(t, "Iff", all(t, trace, a, b, w("Iff")), all(t, trace, a, b, w("Imp"), b, a, w("Imp And")))
		sameValues(t, "And", all(t, trace, a, b, w("And")), flip(all(t, trace, a, w("Not"), b, w("Not Or"))))
		last := flip(all(t, trace, w("True Next")))
		last[n] = false
		sameValues(t, "Last", all(t, trace, w("Last")), last)
		until, va, vb := all(t, trace, a, b, w("Until")), all(t, trace, a), all(t, trace, b)
		for i := range n {
			if until[i] != (vb[i] || va[i] && until[i+1]) {
				t.Fatal("Until", a, b, trace, i)
			}
		}
		if until[n] {
			t.Fatal("Until", a, b, trace, n)
		}
	})
}

func TestPathsByTheirParts(t *testing.T) {
	w := func(s string) []api.Tok { return tokens(s) }
	forms(74, 1500, func(f, g, p, q, plain []api.Tok, trace []api.Letter) {
		vf, vp := all(t, trace, f), all(t, trace, plain)
		step := make([]bool, len(vf))
		for i := range trace {
			step[i] = vp[i] && vf[i+1]
		}
		sameValues(t, "Step", all(t, trace, plain, w("Step"), f, w("Dia")), step)
		sameValues(t, "Test", all(t, trace, g, w("Test"), f, w("Dia")), all(t, trace, g, f, w("And")))
		sameValues(t, "Plus", all(t, trace, p, q, w("Plus"), f, w("Dia")), all(t, trace, p, f, w("Dia"), q, f, w("Dia Or")))
		sameValues(t, "Seq", all(t, trace, p, q, w("Seq"), f, w("Dia")), all(t, trace, p, q, f, w("Dia Dia")))
		sameValues(t, "Star", all(t, trace, p, w("Star"), f, w("Dia")), all(t, trace, f, p, p, w("Star"), f, w("Dia Dia Or")))
		sameValues(t, "Star of Star", all(t, trace, p, w("Star Star"), f, w("Dia")), all(t, trace, p, w("Star"), f, w("Dia")))
	})
}

func TestEndsByFormulas(t *testing.T) {
	forms(75, 400, func(_, _, p, q, _ []api.Tok, trace []api.Letter) {
		for _, path := range [][]api.Tok{p, q, slices.Concat(p, tokens("Star")), slices.Concat(p, q, tokens("Seq"))} {
			for i := range len(trace) + 1 {
				var must []int
				for j := range len(trace) + 1 {
					// Just at j there are so many steps up to the end.
					there := slices.Concat(slices.Repeat(tokens("True Step"), len(trace)-j), tokens("Over"), slices.Repeat(tokens("Dia"), len(trace)-j))
					if is, err := mean.At(slices.Concat(path, there, tokens("Dia")), trace, i); err != api.OK {
						t.Fatal(path, err)
					} else if is {
						must = append(must, j)
					}
				}
				if got, err := mean.Ends(path, trace, i); !slices.Equal(got, must) || err != api.OK {
					t.Fatal(path, trace, i, got, err, must)
				}
			}
		}
	})
}

// P1, and the rules that hold everywhere

func TestCallsAreCalm(t *testing.T) {
	chance := rand.New(rand.NewSource(71))
	for range 30000 {
		l := make([]api.Tok, chance.Intn(9))
		for i := range l {
			l[i] = api.Tok{Op: api.Op(chance.Intn(25))}
			if chance.Intn(40) == 0 {
				l[i] = api.Tok{Op: api.Op(chance.Intn(256)), P: uint8(chance.Intn(256))}
			}
		}
		ask(t, l, anyTrace(chance, chance.Intn(4)))
	}
	for range 300 {
		l := grow(chance, chance.Intn(20), chance.Intn(2) == 0, false)
		at := chance.Intn(len(l))
		trace := anyTrace(chance, 5)
		ask(t, l[:at], trace)
		ask(t, l[at:], trace)
		changed := slices.Clone(l)
		changed[at] = api.Tok{Op: api.Op(chance.Intn(26))}
		ask(t, changed, trace)
	}
	noFormula(t, make([]api.Tok, 100000), make([]api.Letter, 100000), api.ErrLong)
	noPath(t, make([]api.Tok, 100000), make([]api.Letter, 100000), api.ErrLong)
}

func TestNothingHandedInIsChangedOrReadBehindItsEnd(t *testing.T) {
	room := tokens("P0 P1 Until Not P0 Step Star P1 Over And Dia And P0 Test Star")
	trace := letters("1 3 0 2 1 255")
	roomWas, traceWas := slices.Clone(room), slices.Clone(trace)
	for i := range room {
		for j := i; j <= len(room); j++ {
			for k := range trace {
				// The spare room has tokens and letters that would change what is told.
				ask(t, room[i:j], trace[:k])
				a, _ := mean.All(room[i:j], trace[:k])
				b, _ := mean.All(slices.Clip(slices.Clone(room[i:j])), slices.Clip(slices.Clone(trace[:k])))
				if !slices.Equal(a, b) {
					t.Fatal(i, j, k, a, b)
				}
			}
			if !slices.Equal(room, roomWas) || !slices.Equal(trace, traceWas) {
				t.Fatal(i, j, room, trace)
			}
		}
	}
}

func TestAnswersAreNewMemory(t *testing.T) {
	l, p, trace := tokens("P0"), tokens("P0 Step Star"), letters("1 1 0")
	for range 3 {
		values, err := mean.All(l, trace)
		if told(values) != "1100" || err != api.OK {
			t.Fatal(values, err)
		}
		ends, err := mean.Ends(p, trace, 0)
		if !slices.Equal(ends, []int{0, 1, 2}) || err != api.OK {
			t.Fatal(ends, err)
		}
		other, _ := mean.All(l, trace)
		values = values[:cap(values)]
		for i := range values {
			values[i] = i%2 == 1
		}
		ends = ends[:cap(ends)]
		for i := range ends {
			ends[i] = 77
		}
		if told(other) != "1100" {
			t.Fatal("two answers share memory:", other)
		}
	}
}

func TestAnswersHangOnArgumentsAlone(t *testing.T) {
	for range 3 {
		formula(t, "P0 P1 Until", "1 1 2", "1110")
		path(t, "P0 Step Star", "1 0", "0 1|1|2")
		noFormula(t, tokens("P0 P1"), letters("1"), api.ErrForm)
		noPath(t, tokens("P0"), letters("1"), api.ErrForm)
	}
	done := make(chan string)
	trace := letters("1 1 1 1 1 1 1 1 1 0")
	for i := range 8 {
		go func() {
			is, err := mean.At(tokens("P0 Step Star Last Dia"), trace, i)
			ends, _ := mean.Ends(tokens("P0 Step Star"), trace, i)
			done <- fmt.Sprint(is, err, len(ends)+i)
		}()
	}
	for range 8 {
		if got := <-done; got != fmt.Sprint(true, api.OK, 10) {
			t.Error(got)
		}
	}
}
