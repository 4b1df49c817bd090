package prog

import (
	"rejoinder/api"
	"rejoinder/table"
)

// none stands for what an item does not take.
const none = -1

// propBits is how many bits of a byte say which proposition a token is of: all others are left for its Op.
const propBits = 3

// parts holds a kernel formula's items (9), and those of all formulas that come of it, each once. They are in no table, for a table refuses what has more tokens than a kernel formula: a formula that comes of Stars within Stars may have more.
type parts struct {
	items  []api.Item
	places map[api.Item]int
	texts  []string // of each item its tokens as a text, once it was asked for
}

// partsOf tells a kernel formula's parts, and which of them is the whole. What a new table refuses kernel.Check refuses: there is room for every kernel formula.
func partsOf(k []api.Tok) (s parts, whole int, err api.Errno) {
	t := table.New()
	if whole, err = t.Keep(k); err != api.OK {
		return parts{}, 0, err
	}
	s.places = map[api.Item]int{}
	for i := range t.Len() {
		x, _ := t.Item(i)
		s.keep(x)
	}
	return s, whole, api.OK
}

// keep tells the number of an item, behind all others if it is new.
func (s *parts) keep(x api.Item) int {
	i, there := s.places[x]
	if !there {
		i = len(s.items)
		s.places[x] = i
		s.items = append(s.items, x)
		s.texts = append(s.texts, "")
	}
	return i
}

// leaf tells the number of a formula of one token.
func (s *parts) leaf(op api.Op) int { return s.keep(api.Item{Op: op, A: none, B: none}) }

// along tells the number of a formula of a path and a formula.
func (s *parts) along(op api.Op, path, f int) int { return s.keep(api.Item{Op: op, A: path, B: f}) }

// write puts an item's tokens behind others, a byte a token.
func (s *parts) write(text []byte, i int) []byte {
	if i == none {
		return text
	}
	x := s.items[i]
	text = s.write(text, x.A)
	text = s.write(text, x.B)
	return append(text, byte(x.Op)<<propBits|x.P)
}

// text tells an item's tokens as a text. It is kept, for the same formula is needed at each step anew.
func (s *parts) text(i int) string {
	if s.texts[i] == "" {
		s.texts[i] = string(s.write(nil, i))
	}
	return s.texts[i]
}

// tokens tells the tokens that a text stands for.
func tokens(text string) []api.Tok {
	l := make([]api.Tok, len(text))
	for i := range l {
		l[i] = api.Tok{Op: api.Op(text[i] >> propBits), P: text[i] & (1<<propBits - 1)}
	}
	return l
}

// dual tells the token that stands in a negation for a formula's last one, which is neither Prop nor Not.
func dual(op api.Op) api.Op {
	switch op {
	case api.True:
		return api.False
	case api.False:
		return api.True
	case api.More:
		return api.Over
	case api.Over:
		return api.More
	case api.Next:
		return api.Weak
	case api.Weak:
		return api.Next
	case api.And:
		return api.Or
	case api.Or:
		return api.And
	case api.Until:
		return api.Release
	case api.Release:
		return api.Until
	case api.Dia:
		return api.Box
	}
	return api.Dia
}

// negation tells the number of a formula's negation, as kernel.Neg says it. That one is not asked, for it refuses a negation that has more tokens than a kernel formula.
func (s *parts) negation(i int) int {
	if i == none {
		return none
	}
	x := s.items[i]
	switch x.Op {
	case api.Prop:
		return s.keep(api.Item{Op: api.Not, A: i, B: none})
	case api.Not:
		return x.A
	case api.Dia, api.Box:
		return s.along(dual(x.Op), x.A, s.negation(x.B))
	}
	return s.keep(api.Item{Op: dual(x.Op), A: s.negation(x.A), B: s.negation(x.B)})
}

// endsAs tells whether an item is satisfied at the end, out of whether those that it takes are; of a path: whether a way of it that begins there ends there.
func endsAs(x api.Item, is []bool) bool {
	switch x.Op {
	case api.True, api.Over, api.Not, api.Weak, api.Release, api.Star:
		return true
	case api.And, api.Dia, api.Seq:
		return is[x.A] && is[x.B]
	case api.Or, api.Plus:
		return is[x.A] || is[x.B]
	case api.Box:
		return !is[x.A] || is[x.B]
	case api.Test:
		return is[x.A]
	}
	return false
}

// ends tells of each item whether it is satisfied at the end. Each takes items of lesser numbers alone.
func (s *parts) ends() []bool {
	is := make([]bool, len(s.items))
	for i, x := range s.items {
		is[i] = endsAs(x, is)
	}
	return is
}
