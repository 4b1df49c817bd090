package table_test

import (
	"math"
	"math/rand"
	"slices"
	"strconv"
	"strings"
	"testing"

	"rejoinder/api"
	"rejoinder/kernel"
	"rejoinder/table"
)

// opNames tells tokens as the document writes them, by Op.
var opNames = strings.Fields("True False Prop Last More Over Not Next Weak Finally Globally And Or Imp Iff Until Release Dia Box Step Test Plus Seq Star")

// tokens reads tokens, of which one may be said so many times: Next*63.
func tokens(s string) []api.Tok {
	var l []api.Tok
	for _, word := range strings.Fields(s) {
		w, times, _ := strings.Cut(word, "*")
		n := 1
		if times != "" {
			n, _ = strconv.Atoi(times)
		}
		op := slices.Index(opNames, w)
		switch {
		case len(w) == 2 && w[0] == 'P':
			l = append(l, slices.Repeat([]api.Tok{{Op: api.Prop, P: w[1] - '0'}}, n)...)
		case op >= 0:
			l = append(l, slices.Repeat([]api.Tok{{Op: api.Op(op)}}, n)...)
		default:
			panic("no token: " + word)
		}
	}
	return l
}

// told tells tokens as the document writes them.
func told(l []api.Tok) string {
	var words []string
	for _, tok := range l {
		switch {
		case tok.Op == api.Prop:
			words = append(words, "P"+strconv.Itoa(int(tok.P)))
		case int(tok.Op) < len(opNames):
			words = append(words, opNames[tok.Op])
		default:
			words = append(words, "?"+strconv.Itoa(int(tok.Op)))
		}
	}
	return strings.Join(words, " ")
}

// leaf is the item of a token that takes nothing, one that of a token that takes one part, two of one that takes two.
func leaf(op api.Op, p uint8) api.Item     { return api.Item{Op: op, P: p, A: -1, B: -1} }
func one(op api.Op, a int) api.Item        { return api.Item{Op: op, A: a, B: -1} }
func two(op api.Op, a int, b int) api.Item { return api.Item{Op: op, A: a, B: b} }

// The tests tell parts apart by their tokens: a model keeps each by its text, found by reading tokens from the back. The program finds items by the numbers of what they take, from the front.

// arity tells how many parts each token takes, by Op.
var arity = [...]int{0, 0, 0, 0, 0, 0, 1, 1, 1, 1, 1, 2, 2, 2, 2, 2, 2, 2, 2, 1, 1, 2, 2, 1}

// begins tells where the part of the last token begins.
func begins(l []api.Tok) int {
	at := len(l) - 1
	for range arity[l[at].Op] {
		at = begins(l[:at])
	}
	return at
}

// model is what a table must be.
type model struct {
	parts   []string // each item's tokens
	numbers map[string]int
	items   []api.Item
}

// clone tells a model that goes its own way.
func (m *model) clone() *model {
	c := &model{parts: slices.Clone(m.parts), items: slices.Clone(m.items), numbers: map[string]int{}}
	for text, i := range m.numbers {
		c.numbers[text] = i
	}
	return c
}

// put keeps a part, those that it takes ahead, and tells its number.
func (m *model) put(l []api.Tok) int {
	last := l[len(l)-1]
	x := leaf(last.Op, last.P)
	ahead := l[:len(l)-1]
	switch arity[last.Op] {
	case 1:
		x.A = m.put(ahead)
	case 2:
		at := begins(ahead)
		x.A = m.put(ahead[:at])
		x.B = m.put(ahead[at:])
	}
	text := told(l)
	if i, there := m.numbers[text]; there {
		return i
	}
	if m.numbers == nil {
		m.numbers = map[string]int{}
	}
	m.numbers[text] = len(m.parts)
	m.parts = append(m.parts, text)
	m.items = append(m.items, x)
	return len(m.parts) - 1
}

// below tells the numbers of an item and of all that it is made of.
func (m *model) below(i int) []int {
	var all []int
	l := tokens(m.parts[i])
	for at := range l {
		part := l[begins(l[:at+1]) : at+1]
		all = append(all, m.numbers[told(part)])
	}
	slices.Sort(all)
	return slices.Compact(all)
}

// same asks all of a table, which must be as the model says.
func same(t *testing.T, x *table.Table, m *model) {
	t.Helper()
	if n := x.Len(); n != len(m.items) {
		t.Fatalf("Len = %d, not %d", n, len(m.items))
	}
	for i := range m.items {
		sameAt(t, x, m, i)
	}
	for _, i := range []int{-1, len(m.items), len(m.items) + 1} {
		missing(t, x, i)
	}
}

// sameAt asks all that a table tells of an item.
func sameAt(t *testing.T, x *table.Table, m *model, i int) {
	t.Helper()
	if got, err := x.Item(i); got != m.items[i] || err != api.OK {
		t.Fatalf("Item(%d) = %v %d, not %v", i, got, err, m.items[i])
	}
	if got, err := x.Text(i); told(got) != m.parts[i] || err != api.OK {
		t.Fatalf("Text(%d) = %s %d, not %s", i, told(got), err, m.parts[i])
	}
	if got, err := x.Below(i); !slices.Equal(got, m.below(i)) || err != api.OK {
		t.Fatalf("Below(%d) = %v %d, not %v", i, got, err, m.below(i))
	}
}

// missing asks all that a table tells of a number that no item has.
func missing(t *testing.T, x *table.Table, i int) {
	t.Helper()
	refusedAt(t, x, i, api.ErrMissing)
}

// refusedAt asks all that a table tells of a number, which must be refused.
func refusedAt(t *testing.T, x *table.Table, i int, must api.Errno) {
	t.Helper()
	if got, err := x.Item(i); got != (api.Item{}) || err != must {
		t.Errorf("Item(%d) = %v %d, not %d", i, got, err, must)
	}
	if got, err := x.Text(i); got != nil || err != must {
		t.Errorf("Text(%d) = %s %d, not %d", i, told(got), err, must)
	}
	if got, err := x.Below(i); got != nil || err != must {
		t.Errorf("Below(%d) = %v %d, not %d", i, got, err, must)
	}
}

// keep keeps a formula whose number is written out.
func keep(t *testing.T, x *table.Table, s string, must int) {
	t.Helper()
	if i, err := x.Keep(tokens(s)); i != must || err != api.OK {
		t.Errorf("Keep of %s = %d %d, not %d", s, i, err, must)
	}
}

// refused keeps tokens that must be refused, and asks whether the table is as it was.
func refused(t *testing.T, x *table.Table, k []api.Tok, must api.Errno) {
	t.Helper()
	was := x.Len()
	if i, err := x.Keep(k); i != 0 || err != must {
		t.Errorf("Keep of %d tokens = %d %d, not %d", len(k), i, err, must)
	}
	if x.Len() != was {
		t.Errorf("Len = %d, not %d", x.Len(), was)
	}
}

// there asks Find of a formula that is there.
func there(t *testing.T, x *table.Table, s string, must int) {
	t.Helper()
	if i, found := x.Find(tokens(s)); i != must || !found {
		t.Errorf("Find of %s = %d %t, not %d", s, i, found, must)
	}
}

// notThere asks Find of tokens that are not there.
func notThere(t *testing.T, x *table.Table, k []api.Tok) {
	t.Helper()
	if i, found := x.Find(k); i != 0 || found {
		t.Errorf("Find of %d tokens, %.80s = %d %t", len(k), told(k), i, found)
	}
}

// holds asks all of a table whose items are written out.
func holds(t *testing.T, x *table.Table, items ...api.Item) {
	t.Helper()
	if x.Len() != len(items) {
		t.Errorf("Len = %d, not %d", x.Len(), len(items))
	}
	for i, must := range items {
		if got, err := x.Item(i); got != must || err != api.OK {
			t.Errorf("Item(%d) = %v %d, not %v", i, got, err, must)
		}
	}
	missing(t, x, -1)
	missing(t, x, len(items))
}

// The chapter's examples

func TestExamples(t *testing.T) {
	x := table.New()
	keep(t, x, "P0 P1 And", 2)
	holds(t, x, leaf(api.Prop, 0), leaf(api.Prop, 1), two(api.And, 0, 1))
	keep(t, x, "P1 P0 And", 3)
	keep(t, x, "P0 Step Star P1 Dia", 6)
	holds(t, x, leaf(api.Prop, 0), leaf(api.Prop, 1), two(api.And, 0, 1), two(api.And, 1, 0), one(api.Step, 0), one(api.Star, 4), two(api.Dia, 5, 1))
	there(t, x, "P1", 1)
	notThere(t, x, tokens("P2"))
	notThere(t, x, tokens("P0 Finally"))
	if l, err := x.Text(4); told(l) != "P0 Step" || err != api.OK {
		t.Error(told(l), err)
	}
	if l, err := x.Text(7); l != nil || err != api.ErrMissing {
		t.Error(told(l), err)
	}
	if l, err := x.Below(3); !slices.Equal(l, []int{0, 1, 3}) || err != api.OK {
		t.Error(l, err)
	}
	refused(t, x, tokens("P0 Finally"), api.ErrForm)
}

// P9.1

func TestNewHasNoItems(t *testing.T) {
	x := table.New()
	if x == nil || x.Len() != 0 {
		t.Fatal(x)
	}
	for _, i := range []int{-1, 0, 1, 4095, 4096} {
		missing(t, x, i)
	}
	for _, s := range []string{"", "True", "P0", "P0 P1 And", "More"} {
		notThere(t, x, tokens(s))
	}
	if x.Len() != 0 {
		t.Error("asking keeps", x.Len())
	}
}

func TestEachKindOfToken(t *testing.T) {
	for _, c := range []struct {
		formula string
		items   []api.Item
	}{
		{"True", []api.Item{leaf(api.True, 0)}},
		{"False", []api.Item{leaf(api.False, 0)}},
		{"P0", []api.Item{leaf(api.Prop, 0)}},
		{"P7", []api.Item{leaf(api.Prop, 7)}},
		{"More", []api.Item{leaf(api.More, 0)}},
		{"Over", []api.Item{leaf(api.Over, 0)}},
		{"P3 Not", []api.Item{leaf(api.Prop, 3), one(api.Not, 0)}},
		{"P3 Next", []api.Item{leaf(api.Prop, 3), one(api.Next, 0)}},
		{"P3 Weak", []api.Item{leaf(api.Prop, 3), one(api.Weak, 0)}},
		{"P3 P1 And", []api.Item{leaf(api.Prop, 3), leaf(api.Prop, 1), two(api.And, 0, 1)}},
		{"P3 P1 Or", []api.Item{leaf(api.Prop, 3), leaf(api.Prop, 1), two(api.Or, 0, 1)}},
		{"P3 P1 Until", []api.Item{leaf(api.Prop, 3), leaf(api.Prop, 1), two(api.Until, 0, 1)}},
		{"P3 P1 Release", []api.Item{leaf(api.Prop, 3), leaf(api.Prop, 1), two(api.Release, 0, 1)}},
		{"P3 Step P1 Dia", []api.Item{leaf(api.Prop, 3), one(api.Step, 0), leaf(api.Prop, 1), two(api.Dia, 1, 2)}},
		{"P3 Step P1 Box", []api.Item{leaf(api.Prop, 3), one(api.Step, 0), leaf(api.Prop, 1), two(api.Box, 1, 2)}},
		{"More Test P1 Box", []api.Item{leaf(api.More, 0), one(api.Test, 0), leaf(api.Prop, 1), two(api.Box, 1, 2)}},
		{"P3 Step Star P1 Dia", []api.Item{leaf(api.Prop, 3), one(api.Step, 0), one(api.Star, 1), leaf(api.Prop, 1), two(api.Dia, 2, 3)}},
		{"P3 Step P1 Test Plus P2 Dia", []api.Item{leaf(api.Prop, 3), one(api.Step, 0), leaf(api.Prop, 1), one(api.Test, 2), two(api.Plus, 1, 3), leaf(api.Prop, 2), two(api.Dia, 4, 5)}},
		{"P3 Step P1 Test Seq P2 Box", []api.Item{leaf(api.Prop, 3), one(api.Step, 0), leaf(api.Prop, 1), one(api.Test, 2), two(api.Seq, 1, 3), leaf(api.Prop, 2), two(api.Box, 4, 5)}},
	} {
		x := table.New()
		last := len(c.items) - 1
		keep(t, x, c.formula, last)
		holds(t, x, c.items...)
		there(t, x, c.formula, last)
		if l, err := x.Text(last); told(l) != c.formula || err != api.OK {
			t.Error(told(l), err)
		}
		if l, err := x.Below(last); len(l) != len(c.items) || err != api.OK {
			t.Error(c.formula, l, err)
		}
		// Once more adds nothing.
		keep(t, x, c.formula, last)
		holds(t, x, c.items...)
		m := &model{}
		m.put(tokens(c.formula))
		same(t, x, m)
	}
}

func TestAllPropositions(t *testing.T) {
	x := table.New()
	for p := range 8 {
		name := "P" + strconv.Itoa(p)
		keep(t, x, name+" Not", 2*p+1)
		keep(t, x, name, 2*p)
		if got, err := x.Item(2 * p); got != leaf(api.Prop, uint8(p)) || err != api.OK {
			t.Error(got, err)
		}
		if got, err := x.Item(2*p + 1); got != one(api.Not, 2*p) || err != api.OK {
			t.Error(got, err)
		}
	}
}

func TestWhatIsThereIsTakenAgain(t *testing.T) {
	x := table.New()
	// Within one formula, too.
	keep(t, x, "P0 P0 And", 1)
	holds(t, x, leaf(api.Prop, 0), two(api.And, 0, 0))
	keep(t, x, "P0 P0 And P0 P0 And Or", 2)
	holds(t, x, leaf(api.Prop, 0), two(api.And, 0, 0), two(api.Or, 1, 1))
	keep(t, x, "P0 P0 And", 1)
	keep(t, x, "P0", 0)
	keep(t, x, "P1 P0 P0 And Until", 4)
	holds(t, x, leaf(api.Prop, 0), two(api.And, 0, 0), two(api.Or, 1, 1), leaf(api.Prop, 1), two(api.Until, 3, 1))
	// A part's number is that of the formula by itself, wherever it stands.
	keep(t, x, "P0 P0 And Test Star P1 Dia", 7)
	keep(t, x, "P0 P0 And Test Star P1 Box", 8)
	keep(t, x, "P0 P0 And Test P0 Dia", 9)
	holds(t, x, leaf(api.Prop, 0), two(api.And, 0, 0), two(api.Or, 1, 1), leaf(api.Prop, 1), two(api.Until, 3, 1), one(api.Test, 1), one(api.Star, 5), two(api.Dia, 6, 3), two(api.Box, 6, 3), two(api.Dia, 5, 0))
}

func TestTheOrderOfNumbersIsThatOfTheTokens(t *testing.T) {
	x := table.New()
	// From the front, not from the back, and not by what is deepest.
	keep(t, x, "P2 P1 Next P0 Weak Until Or", 6)
	holds(t, x, leaf(api.Prop, 2), leaf(api.Prop, 1), one(api.Next, 1), leaf(api.Prop, 0), one(api.Weak, 3), two(api.Until, 2, 4), two(api.Or, 0, 5))
	// New ones stand behind those that came ahead, in the order of their tokens.
	keep(t, x, "P1 P3 P2 And Release", 9)
	keep(t, x, "P3", 7)
	keep(t, x, "P3 P2 And", 8)
	keep(t, x, "True", 10)
	keep(t, x, "P2 P1 Next P0 Weak Until Or", 6)
	keep(t, x, "False", 11)
}

func TestUnlikeFormulasHaveUnlikeNumbers(t *testing.T) {
	// They differ in one thing alone: the token, the proposition, the order of both parts, one of both, the kind of a path.
	formulas := []string{
		"P0", "P1", "P7", "True", "False", "More", "Over", "P0 Not", "P0 Next", "P0 Weak", "P1 Next", "P0 Next Next",
		"P0 P1 And", "P1 P0 And", "P0 P0 And", "P1 P1 And", "P0 P1 Or", "P0 P1 Until", "P0 P1 Release", "P1 P0 Until",
		"P0 Step P1 Dia", "P0 Step P1 Box", "P0 Test P1 Dia", "P0 Test P1 Box", "P0 Step Star P1 Dia", "P0 Step Star Star P1 Dia", "P0 Test Star P1 Dia", "P1 Step P0 Dia",
		"P0 Step P1 Step Plus P2 Dia", "P0 Step P1 Step Seq P2 Dia", "P1 Step P0 Step Plus P2 Dia", "P0 Step P1 Test Plus P2 Dia", "P0 Step P0 Step Plus P2 Dia",
		"P0 P1 And P2 And", "P0 P1 P2 And And", "P0 P1 Or P2 And", "P0 P1 P2 Or And", "P0 Not P1 And", "P0 P1 Not And", "P0 Not P1 Not And",
	}
	for range 2 {
		x := table.New()
		seen := map[int]string{}
		for _, s := range formulas {
			i, err := x.Keep(tokens(s))
			if other, met := seen[i]; met || err != api.OK {
				t.Error(s, i, err, "has the number of", other)
			}
			seen[i] = s
		}
		n := x.Len()
		for i, s := range seen {
			keep(t, x, s, i)
			there(t, x, s, i)
			if l, err := x.Text(i); told(l) != s || err != api.OK {
				t.Error(i, told(l), err)
			}
		}
		if x.Len() != n {
			t.Error(n, x.Len())
		}
		slices.Reverse(formulas)
	}
}

// noKernel tells tokens that are no kernel formula's.
func noKernel() [][]api.Tok {
	var all [][]api.Tok
	for _, s := range []string{
		"", "P0 P1", "P0 And", "And", "Next", "Not", "P0 Until", "P0 P1 Dia", "P0 P1 P0", "P0 Step", "P0 Step Star", "P0 Test", "P0 Step P1 Test Seq", "P0 Step P1", "P0 Step Next", "P0 Step P1 And", "Star", "Box",
		"True Not", "P0 Not Not", "P0 P1 And Not", "P0 Next Not", "Last", "P0 Finally", "P0 Globally", "P0 P1 Imp", "P0 P1 Iff", "P0 Finally Test P1 Dia", "P0 P1 Imp Step P1 Dia",
		"More Step P0 Dia", "P0 Next Step P1 Dia", "P0 P1 Until Step P1 Dia",
	} {
		all = append(all, tokens(s))
	}
	for _, tok := range []api.Tok{{Op: api.Prop, P: 8}, {Op: api.Prop, P: 255}, {Op: api.True, P: 1}, {Op: api.And, P: 1}, {Op: 24}, {Op: 255, P: 255}} {
		all = append(all, []api.Tok{tok}, []api.Tok{{Op: api.Prop}, tok}, []api.Tok{{Op: api.Prop}, {Op: api.Prop, P: 1}, tok})
	}
	return all
}

func TestWhatIsNoKernelFormulaIsRefused(t *testing.T) {
	x := table.New()
	m := &model{}
	for range 2 {
		for _, k := range noKernel() {
			refused(t, x, k, api.ErrForm)
			notThere(t, x, k)
			if kernel.Check(k) != api.ErrForm {
				t.Error("the test's tokens are a kernel formula's:", told(k))
			}
		}
		for _, k := range [][]api.Tok{tokens("P0 Next*2048"), tokens("P0*2049"), tokens("True*3000"), make([]api.Tok, 1000000)} {
			refused(t, x, k, api.ErrLong)
			notThere(t, x, k)
		}
		same(t, x, m)
		// And once more, where all of their parts are there.
		for _, s := range []string{"P0 Not P1 And", "P0 Step Star P1 Dia", "P0 Step P1 Test Seq P1 Dia", "P0 Test P1 Dia", "P0 P1 Until", "P0 Next", "True"} {
			i, err := x.Keep(tokens(s))
			if must := m.put(tokens(s)); i != must || err != api.OK {
				t.Error(s, i, err, must)
			}
		}
		same(t, x, m)
	}
}

func TestTheLongestFormulas(t *testing.T) {
	x := table.New()
	keep(t, x, "P0 Next*2047", 2047)
	there(t, x, "P0 Next*2047", 2047)
	there(t, x, "P0 Next*2046", 2046)
	if l, err := x.Text(2047); !slices.Equal(l, tokens("P0 Next*2047")) || err != api.OK {
		t.Error(len(l), err)
	}
	if l, err := x.Below(2047); len(l) != 2048 || !slices.IsSorted(l) || l[0] != 0 || l[2047] != 2047 || err != api.OK {
		t.Error(len(l), err)
	}
	refused(t, x, tokens("P0 Next*2048"), api.ErrLong)
	notThere(t, x, tokens("P0 Next*2048"))
	if x.Len() != 2048 {
		t.Error(x.Len())
	}
	// 1,023 propositions, joined to the left and to the right.
	y := table.New()
	left := slices.Concat(tokens("P0"), slices.Repeat(tokens("P1 And"), 1023))
	right := slices.Concat(tokens("P0*1024"), tokens("Or*1023"))
	for _, k := range [][]api.Tok{left, right} {
		i, err := y.Keep(k)
		if err != api.OK || i != y.Len()-1 {
			t.Fatal(i, err)
		}
		if l, err := y.Text(i); !slices.Equal(l, k) || err != api.OK {
			t.Error(len(l), err)
		}
	}
	if y.Len() != 2+1023+1023 {
		t.Error(y.Len())
	}
	// Many tokens, few items.
	z := table.New()
	even := tokens("P0")
	for range 10 {
		even = slices.Concat(even, even, tokens("And"))
	}
	even = append(even, tokens("Next")...)
	if i, err := z.Keep(even); i != 11 || err != api.OK || len(even) != 2048 {
		t.Error(i, err, len(even))
	}
	if l, err := z.Text(11); !slices.Equal(l, even) || err != api.OK {
		t.Error(len(l), err)
	}
	if l, err := z.Below(11); !slices.Equal(l, []int{0, 1, 2, 3, 4, 5, 6, 7, 8, 9, 10, 11}) || err != api.OK {
		t.Error(l, err)
	}
}

// filled tells a table of so many items (2,049 to 4,096): P0 with Next, P1 with Next.
func filled(t *testing.T, n int) *table.Table {
	t.Helper()
	x := table.New()
	keep(t, x, "P0 Next*2047", 2047)
	keep(t, x, "P1 Next*"+strconv.Itoa(n-2049), n-1)
	if x.Len() != n {
		t.Fatal(x.Len(), n)
	}
	return x
}

// sameFilled asks whether a table is one of so many items, as filled tells it.
func sameFilled(t *testing.T, x *table.Table, n int) {
	t.Helper()
	if x.Len() != n {
		t.Errorf("Len = %d, not %d", x.Len(), n)
	}
	for i := range n {
		must := one(api.Next, i-1)
		switch i {
		case 0:
			must = leaf(api.Prop, 0)
		case 2048:
			must = leaf(api.Prop, 1)
		}
		if got, err := x.Item(i); got != must || err != api.OK {
			t.Fatalf("Item(%d) = %v %d, not %v", i, got, err, must)
		}
	}
	there(t, x, "P0 Next*2047", 2047)
	there(t, x, "P1 Next*"+strconv.Itoa(n-2049), n-1)
	for _, i := range []int{-1, n, n + 1, 4096, 4097} {
		missing(t, x, i)
	}
}

func TestKeepUpToTheLimit(t *testing.T) {
	x := filled(t, 4094)
	keep(t, x, "P2", 4094)
	keep(t, x, "P2 P0 And", 4095)
	if x.Len() != 4096 {
		t.Error(x.Len())
	}
	// It is full: what is there is kept, what is not is refused.
	keep(t, x, "P2 P0 And", 4095)
	keep(t, x, "P0 Next*2047", 2047)
	keep(t, x, "P0", 0)
	refused(t, x, tokens("P3"), api.ErrLong)
	refused(t, x, tokens("P0 P2 And"), api.ErrLong)
	refused(t, x, tokens("P0 P2 And P2 P0 And Or"), api.ErrLong)
	refused(t, x, tokens("P2 P0 And Next"), api.ErrLong)
	for _, s := range []string{"P3", "P0 P2 And", "P0 P2 And P2 P0 And Or", "P2 P0 And Next"} {
		notThere(t, x, tokens(s))
	}
	if l, err := x.Text(4095); told(l) != "P2 P0 And" || err != api.OK {
		t.Error(told(l), err)
	}
	if l, err := x.Below(4095); !slices.Equal(l, []int{0, 4094, 4095}) || err != api.OK {
		t.Error(l, err)
	}
	missing(t, x, 4096)
}

func TestNothingIsKeptAboveTheLimit(t *testing.T) {
	for _, c := range []struct {
		items   int
		formula string // passes the limit
		fits    string // is kept then
		number  int    // that of fits
		then    int    // how many items there are then
	}{
		{4096, "P2", "P0", 0, 4096},
		{4096, "P0 P1 And", "P1", 2048, 4096},
		{4096, "P2 Next*2047", "P0 Next*2047", 2047, 4096},
		{4095, "P2 Next", "P2", 4095, 4096},
		{4095, "P0 P1 And P2 And", "P0 P1 And", 4095, 4096},
		{4095, "P2 Step P0 Dia", "P0 P1 Until", 4095, 4096},
		{4095, "P0 P1 Until P1 P0 Until Or", "P1 P0 Until", 4095, 4096},
		{4094, "P2 P3 And", "P2 Not", 4095, 4096},
		{4094, "P3 P2 And", "P2", 4094, 4095},
		{4094, "P2 Step Star P0 Dia", "P2 Weak", 4095, 4096},
		{4090, "P2 Weak*6", "P2 Weak*5", 4095, 4096},
		{4090, "P2 Next*2047", "P2 Next*4", 4094, 4095},
		{2054, "P2 Next*2040 P3 Next P3 And And", "P2 Next*2041", 4095, 4096},
	} {
		if kernel.Check(tokens(c.formula)) != api.OK {
			t.Fatal("the test's formula is no kernel formula:", c.formula)
		}
		x := filled(t, c.items)
		for range 3 {
			refused(t, x, tokens(c.formula), api.ErrLong)
			sameFilled(t, x, c.items)
			notThere(t, x, tokens(c.formula))
			for at := range tokens(c.formula) {
				k := tokens(c.formula)[:at+1]
				if i, found := x.Find(k); found && i >= c.items {
					t.Fatal(told(k), "was kept:", i)
				}
			}
		}
		notThere(t, x, tokens("P2"))
		// What comes later has the numbers that it would have had without the refusal.
		for _, y := range []*table.Table{x, filled(t, c.items)} {
			keep(t, y, c.fits, c.number)
			there(t, y, c.fits, c.number)
			if y.Len() != c.then {
				t.Error(c.fits, y.Len(), c.then)
			}
			if l, err := y.Text(c.number); !slices.Equal(l, tokens(c.fits)) || err != api.OK {
				t.Error(c.fits, told(l), err)
			}
			missing(t, y, c.then)
		}
	}
}

func TestKeepAfterARefusalNumbersAnew(t *testing.T) {
	x := filled(t, 4094)
	// It would have had the numbers 4094 on: P3, P2, And.
	refused(t, x, tokens("P3 P2 And"), api.ErrLong)
	keep(t, x, "P2", 4094)
	keep(t, x, "P3", 4095)
	refused(t, x, tokens("P3 P2 And"), api.ErrLong)
	there(t, x, "P2", 4094)
	there(t, x, "P3", 4095)
	if l, err := x.Text(4095); told(l) != "P3" || err != api.OK {
		t.Error(told(l), err)
	}
}

func TestFind(t *testing.T) {
	x := table.New()
	m := &model{}
	for _, s := range []string{"P0 Not P1 And", "P0 Step P1 Test Seq Star P2 Dia", "True P1 Until"} {
		x.Keep(tokens(s))
		m.put(tokens(s))
	}
	same(t, x, m)
	// Each formula that was kept, and each in one, is there; paths are no kernel formulas, though their items are there.
	paths := 0
	for i, part := range m.parts {
		if m.items[i].Op >= api.Step {
			notThere(t, x, tokens(part))
			paths++
		} else {
			there(t, x, part, i)
		}
	}
	if paths != 4 {
		t.Error(paths)
	}
	for _, s := range []string{
		// The first item is missing, one within, the last one.
		"P3", "P3 Not", "P3 P1 And", "P1 P3 And", "P0 Not P1 Or", "P1 P0 Not And", "P0 P1 And", "P1 Not P1 And", "P0 Not P1 And Next", "P0 Step P2 Dia", "P0 Step P1 Test Seq P2 Dia", "P0 Step P1 Test Seq Star P2 Box", "P0 Step P1 Test Seq Star P1 Dia", "P1 Test P2 Dia", "True P1 Release", "P1 True Until", "False", "More", "Over",
	} {
		notThere(t, x, tokens(s))
	}
	for _, k := range noKernel() {
		notThere(t, x, k)
	}
	same(t, x, m)
}

// P9.2

func TestNumbersThatNoItemHas(t *testing.T) {
	x := table.New()
	m := &model{}
	far := []int{-1, -2, -4096, math.MinInt, math.MaxInt, math.MinInt32, math.MaxInt32, 4096, 4097, 1 << 32, -1 << 32}
	for _, s := range []string{"P0", "P0 Next", "P0 Step Star P1 Dia", "P0 P1 Until"} {
		for _, i := range append(far, x.Len(), x.Len()+1) {
			missing(t, x, i)
		}
		x.Keep(tokens(s))
		m.put(tokens(s))
		same(t, x, m)
		sameAt(t, x, m, 0)
		sameAt(t, x, m, x.Len()-1)
	}
}

func TestTextAndBelowOfEachKind(t *testing.T) {
	x := table.New()
	keep(t, x, "P0 P1 Not And Step P2 Next Test Plus Star True Step Seq P0 P2 Next Release Box", 14)
	for i, c := range []struct {
		text  string
		below []int
	}{
		{"P0", []int{0}},
		{"P1", []int{1}},
		{"P1 Not", []int{1, 2}},
		{"P0 P1 Not And", []int{0, 1, 2, 3}},
		{"P0 P1 Not And Step", []int{0, 1, 2, 3, 4}},
		{"P2", []int{5}},
		{"P2 Next", []int{5, 6}},
		{"P2 Next Test", []int{5, 6, 7}},
		{"P0 P1 Not And Step P2 Next Test Plus", []int{0, 1, 2, 3, 4, 5, 6, 7, 8}},
		{"P0 P1 Not And Step P2 Next Test Plus Star", []int{0, 1, 2, 3, 4, 5, 6, 7, 8, 9}},
		{"True", []int{10}},
		{"True Step", []int{10, 11}},
		{"P0 P1 Not And Step P2 Next Test Plus Star True Step Seq", []int{0, 1, 2, 3, 4, 5, 6, 7, 8, 9, 10, 11, 12}},
		{"P0 P2 Next Release", []int{0, 5, 6, 13}},
		{"P0 P1 Not And Step P2 Next Test Plus Star True Step Seq P0 P2 Next Release Box", []int{0, 1, 2, 3, 4, 5, 6, 7, 8, 9, 10, 11, 12, 13, 14}},
	} {
		if l, err := x.Text(i); told(l) != c.text || err != api.OK {
			t.Errorf("Text(%d) = %s %d, not %s", i, told(l), err, c.text)
		}
		if l, err := x.Below(i); !slices.Equal(l, c.below) || err != api.OK {
			t.Errorf("Below(%d) = %v %d, not %v", i, l, err, c.below)
		}
	}
	if x.Len() != 15 {
		t.Error(x.Len())
	}
}

func TestBelowTellsEachNumberOnce(t *testing.T) {
	x := table.New()
	keep(t, x, "P0 P1 And P0 P1 And Or P0 P1 And Until", 4)
	keep(t, x, "P5", 5)
	keep(t, x, "P1 P0 P1 And P0 P1 And Or Release", 6)
	for i, must := range [][]int{{0}, {1}, {0, 1, 2}, {0, 1, 2, 3}, {0, 1, 2, 3, 4}, {5}, {0, 1, 2, 3, 6}} {
		if l, err := x.Below(i); !slices.Equal(l, must) || err != api.OK {
			t.Errorf("Below(%d) = %v %d, not %v", i, l, err, must)
		}
	}
}

// P9.3

// grow tells a kernel formula, or a path in one, of about so many tokens.
func grow(chance *rand.Rand, size int, path, plain bool) []api.Tok {
	if path {
		return growPath(chance, size)
	}
	if size <= 1 {
		leaves := []string{"P0", "P1", "P2", "P0 Not", "P1 Not", "True", "False", "More", "Over"}
		if plain {
			leaves = leaves[:7]
		}
		return tokens(leaves[chance.Intn(len(leaves))])
	}
	a := chance.Intn(size)
	if plain {
		return slices.Concat(grow(chance, a, false, true), grow(chance, size-1-a, false, true), tokens([]string{"And", "Or"}[chance.Intn(2)]))
	}
	switch op := []string{"Next", "Weak", "And", "Or", "Until", "Release", "Dia", "Box"}[chance.Intn(8)]; op {
	case "Next", "Weak":
		return slices.Concat(grow(chance, size-1, false, false), tokens(op))
	case "Dia", "Box":
		return slices.Concat(grow(chance, a, true, false), grow(chance, size-1-a, false, false), tokens(op))
	default:
		return slices.Concat(grow(chance, a, false, false), grow(chance, size-1-a, false, false), tokens(op))
	}
}

// growPath tells a path of about so many tokens.
func growPath(chance *rand.Rand, size int) []api.Tok {
	a := chance.Intn(max(size, 1))
	switch n := chance.Intn(5); {
	case n == 0 || size <= 2:
		return slices.Concat(grow(chance, size-1, false, true), tokens("Step"))
	case n == 1:
		return slices.Concat(grow(chance, size-1, false, false), tokens("Test"))
	case n == 2:
		return slices.Concat(growPath(chance, size-1), tokens("Star"))
	default:
		return slices.Concat(growPath(chance, a), growPath(chance, size-1-a), tokens([]string{"Plus", "Seq"}[n-3]))
	}
}

func TestGrownFormulas(t *testing.T) {
	for seed := range int64(40) {
		chance := rand.New(rand.NewSource(seed))
		x := table.New()
		m := &model{}
		var kept [][]api.Tok
		for range 30 {
			k := grow(chance, chance.Intn(30), false, false)
			_, was := m.numbers[told(k)]
			if i, found := x.Find(k); found != was || found && i != m.numbers[told(k)] {
				t.Fatal("Find of", told(k), i, found)
			}
			i, err := x.Keep(k)
			if must := m.put(k); i != must || err != api.OK {
				t.Fatal("Keep of", told(k), i, err, must)
			}
			kept = append(kept, k)
		}
		same(t, x, m)
		// What was kept has its number, whatever was kept beside; it adds nothing.
		for _, k := range kept {
			there(t, x, told(k), m.numbers[told(k)])
			keep(t, x, told(k), m.numbers[told(k)])
		}
		same(t, x, m)
	}
}

func TestEachItemTakesItemsOfLesserNumbers(t *testing.T) {
	chance := rand.New(rand.NewSource(9))
	x := table.New()
	for x.Len() < 3000 {
		x.Keep(grow(chance, chance.Intn(200), false, false))
	}
	for i := range x.Len() {
		item, err := x.Item(i)
		if err != api.OK || item.A >= i || item.B >= i || item.A < -1 || item.B < -1 {
			t.Fatal(i, item, err)
		}
		n := arity[item.Op]
		if item.A >= 0 != (n > 0) || item.B >= 0 != (n > 1) {
			t.Fatal(i, item)
		}
		if item.Op < api.Step {
			text, _ := x.Text(i)
			if j, found := x.Find(text); j != i || !found {
				t.Fatal(i, told(text), j, found)
			}
		}
	}
}

func TestGrownFormulasUpToTheLimit(t *testing.T) {
	for seed := range int64(4) {
		chance := rand.New(rand.NewSource(100 + seed))
		x := table.New()
		m := &model{}
		refusals := 0
		for refusals < 40 {
			k := grow(chance, chance.Intn(300), false, false)
			try := m.clone()
			must := try.put(k)
			i, err := x.Keep(k)
			if len(try.items) > 4096 {
				refusals++
				if i != 0 || err != api.ErrLong || x.Len() != len(m.items) {
					t.Fatal(i, err, x.Len(), len(m.items))
				}
				continue
			}
			m = try
			if i != must || err != api.OK || x.Len() != len(m.items) {
				t.Fatal(i, err, must, x.Len())
			}
		}
		for i := 0; i < x.Len(); i += 7 {
			sameAt(t, x, m, i)
		}
		if x.Len() < 3500 {
			t.Error("just", x.Len(), "items were kept")
		}
	}
}

// Rule 5

// none asks all of a table that is none.
func none(t *testing.T, x *table.Table) {
	t.Helper()
	long := make([]api.Tok, 5000)
	for _, k := range append(noKernel(), tokens("P0"), tokens("P0 P1 And"), tokens("P0 Step Star P1 Dia"), long) {
		if i, err := x.Keep(k); i != 0 || err != api.ErrNil {
			t.Errorf("Keep of %d tokens = %d %d", len(k), i, err)
		}
		if i, found := x.Find(k); i != 0 || found {
			t.Errorf("Find of %d tokens = %d %t", len(k), i, found)
		}
	}
	for _, i := range []int{-1, 0, 1, 2, 4096, math.MinInt, math.MaxInt} {
		refusedAt(t, x, i, api.ErrNil)
	}
	if n := x.Len(); n != 0 {
		t.Errorf("Len = %d", n)
	}
}

func TestATableThatIsNone(t *testing.T) {
	none(t, nil)
	none(t, &table.Table{})
	none(t, new(table.Table))
	var x table.Table
	none(t, &x)
	none(t, &[]table.Table{{}, {}}[1])
	var within struct{ table.Table }
	none(t, &within.Table)
}

func TestACopyIsNoTable(t *testing.T) {
	x := table.New()
	keep(t, x, "P0 P1 And", 2)
	c := *x
	none(t, &c)
	// And what is asked of it leaves the table as it is.
	holds(t, x, leaf(api.Prop, 0), leaf(api.Prop, 1), two(api.And, 0, 1))
	keep(t, x, "P2", 3)
	none(t, &c)
	holds(t, x, leaf(api.Prop, 0), leaf(api.Prop, 1), two(api.And, 0, 1), leaf(api.Prop, 2))
}

// The order of errors

func TestOrderOfErrors(t *testing.T) {
	// No table, no kernel formula, no room: each is told ahead of those behind it.
	var nobody *table.Table
	full := filled(t, 4096)
	for _, k := range noKernel() {
		refused(t, nobody, k, api.ErrNil)
		refused(t, full, k, api.ErrForm)
	}
	refused(t, nobody, make([]api.Tok, 3000), api.ErrNil)
	refused(t, nobody, tokens("P0"), api.ErrNil)
	refused(t, full, tokens("P3 P4"), api.ErrForm)
	refused(t, full, tokens("P3 Finally"), api.ErrForm)
	refused(t, full, tokens("P3*2049"), api.ErrLong)
	refused(t, full, tokens("P3 And*2047"), api.ErrForm)
	refused(t, full, tokens("P3"), api.ErrLong)
	sameFilled(t, full, 4096)
	refusedAt(t, nobody, -1, api.ErrNil)
	refusedAt(t, nobody, 0, api.ErrNil)
	refusedAt(t, full, -1, api.ErrMissing)
	refusedAt(t, full, 4096, api.ErrMissing)
}

// P1, and the rules that hold everywhere

func TestTwoTablesBesideEachOther(t *testing.T) {
	x, y := table.New(), table.New()
	if x == y {
		t.Fatal("New answers one table twice")
	}
	mx, my := &model{}, &model{}
	chance := rand.New(rand.NewSource(2))
	for range 40 {
		k := grow(chance, chance.Intn(12), false, false)
		a, m := x, mx
		if chance.Intn(2) == 0 {
			a, m = y, my
		}
		i, err := a.Keep(k)
		if must := m.put(k); i != must || err != api.OK {
			t.Fatal(told(k), i, err, must)
		}
		same(t, x, mx)
		same(t, y, my)
	}
	// One is full, the other is not.
	full, empty := filled(t, 4096), table.New()
	refused(t, full, tokens("P2"), api.ErrLong)
	keep(t, empty, "P2", 0)
	holds(t, empty, leaf(api.Prop, 2))
	sameFilled(t, full, 4096)
}

func TestCallsAreCalm(t *testing.T) {
	chance := rand.New(rand.NewSource(91))
	x := table.New()
	m := &model{}
	kept := 0
	for range 30000 {
		k := make([]api.Tok, chance.Intn(8))
		for i := range k {
			k[i] = api.Tok{Op: api.Op(chance.Intn(25))}
			if chance.Intn(40) == 0 {
				k[i] = api.Tok{Op: api.Op(chance.Intn(256)), P: uint8(chance.Intn(256))}
			}
		}
		err := kernel.Check(k)
		must := 0
		if err == api.OK {
			must = m.put(k)
			kept++
		}
		if i, e := x.Keep(k); i != must || e != err {
			t.Fatal(told(k), i, e, must, err)
		}
		if i, found := x.Find(k); i != must || found != (err == api.OK) {
			t.Fatal(told(k), i, found, must)
		}
	}
	same(t, x, m)
	if kept < 500 {
		t.Error("just", kept, "were kept")
	}
	for op := range 256 {
		for _, n := range []int{0, 1, 2, 64, 2048, 2049} {
			k := slices.Repeat([]api.Tok{{Op: api.Op(op)}}, n)
			_, err := x.Keep(k)
			if err != kernel.Check(k) {
				t.Fatal(op, n, err)
			}
			if _, found := x.Find(k); found != (err == api.OK) {
				t.Fatal(op, n, found)
			}
		}
	}
}

// spoil writes over a list, and over its spare room.
func spoil(l []api.Tok) {
	l = l[:cap(l)]
	for i := range l {
		l[i] = api.Tok{Op: 99, P: 99}
	}
}

// spoilNumbers writes over a list, and over its spare room.
func spoilNumbers(l []int) {
	l = l[:cap(l)]
	for i := range l {
		l[i] = -99
	}
}

func TestNothingHandedInIsChangedOrReadBehindItsEnd(t *testing.T) {
	room := tokens("P0 P1 Until P0 Not P0 Step Star P1 Over And Dia And And P0 Not Test Star P1 P0 Or Box And")
	was := slices.Clone(room)
	for i := range room {
		for j := i; j <= len(room); j++ {
			// The spare room has tokens that would change what is told.
			x, y := table.New(), table.New()
			a, errA := x.Keep(room[i:j])
			b, errB := y.Keep(slices.Clip(slices.Clone(room[i:j])))
			c, foundC := y.Find(room[i:j])
			if a != b || errA != errB || a != c || foundC != (errA == api.OK) || errA != kernel.Check(was[i:j]) || x.Len() != y.Len() {
				t.Fatal(i, j, a, errA, b, errB, c, foundC)
			}
			if errA == api.OK {
				l, _ := x.Text(a)
				if !slices.Equal(l, was[i:j]) {
					t.Fatal(i, j, told(l))
				}
				spoil(l)
			}
			if !slices.Equal(room, was) {
				t.Fatal(i, j, told(room))
			}
		}
	}
}

func TestAnswersShareNoMemory(t *testing.T) {
	x := table.New()
	m := &model{}
	for _, s := range []string{"P0", "P0 P1 And", "P0 Step Star P1 Dia", "P2 Not Test P0 P1 And Box", "P0 Next*40"} {
		k := append(tokens(s), tokens("True False")...)[:len(tokens(s))]
		i, err := x.Keep(k)
		if must := m.put(k); i != must || err != api.OK {
			t.Fatal(s, i, err)
		}
		// What was handed in may change behind the call.
		spoil(k)
		same(t, x, m)
		k = tokens(s)
		x.Find(k)
		spoil(k)
		same(t, x, m)
	}
	for i := range x.Len() {
		text, _ := x.Text(i)
		other, _ := x.Text(i)
		below, _ := x.Below(i)
		otherBelow, _ := x.Below(i)
		spoil(text)
		spoilNumbers(below)
		if told(other) != m.parts[i] || !slices.Equal(otherBelow, m.below(i)) {
			t.Fatal(i, told(other), otherBelow)
		}
		same(t, x, m)
		// And what is kept later leaves alone what was told.
		x.Keep(tokens("P3 Next*" + strconv.Itoa(i+1)))
		m.put(tokens("P3 Next*" + strconv.Itoa(i+1)))
		if told(other) != m.parts[i] || !slices.Equal(otherBelow, m.below(i)) {
			t.Fatal(i, told(other), otherBelow)
		}
	}
	same(t, x, m)
}

func TestAskingChangesNothing(t *testing.T) {
	x := table.New()
	m := &model{}
	for _, s := range []string{"P0 P1 And", "P0 Step Star P1 Dia", "True P0 Until"} {
		x.Keep(tokens(s))
		m.put(tokens(s))
	}
	for range 3 {
		for i := -2; i < x.Len()+2; i++ {
			x.Item(i)
			x.Text(i)
			x.Below(i)
		}
		for _, s := range []string{"P5", "P0", "P0 P1 Or", "P5 P6 And P7 Until", "P0 Step"} {
			x.Find(tokens(s))
		}
		same(t, x, m)
	}
	keep(t, x, "P5 P6 And", len(m.items)+2)
}

func TestAnswersHangOnWhatWasKeptAlone(t *testing.T) {
	run := func() []int {
		x := table.New()
		var numbers []int
		chance := rand.New(rand.NewSource(7))
		for range 200 {
			i, _ := x.Keep(grow(chance, chance.Intn(20), false, false))
			numbers = append(numbers, i)
			below, _ := x.Below(i)
			numbers = append(numbers, below...)
		}
		return numbers
	}
	must := run()
	done := make(chan []int)
	for range 8 {
		go func() { done <- run() }()
	}
	for range 8 {
		if got := <-done; !slices.Equal(got, must) {
			t.Error("another run tells other numbers")
		}
	}
}
