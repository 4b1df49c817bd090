package table

import (
	"slices"
	"testing"

	"rejoinder/api"
)

// A formula that is kept has at most 2,048 tokens, and so has each part of it: just a table that is put together by hand has items of more.

// doubles tells a table whose item 0 is True, and whose others are each And of the one ahead, twice.
func doubles(n int) *Table {
	t := New()
	t.add(api.Item{Op: api.True, A: none, B: none})
	for i := range n - 1 {
		t.add(api.Item{Op: api.And, A: i, B: i})
	}
	return t
}

// text asks Text for so many tokens, or for ErrLong.
func text(t *testing.T, x *Table, i, tokens int) {
	t.Helper()
	l, err := x.Text(i)
	if tokens > 2048 && (l != nil || err != api.ErrLong) {
		t.Errorf("Text(%d) = %d tokens, %d, not ErrLong", i, len(l), err)
	}
	if tokens <= 2048 && (len(l) != tokens || err != api.OK) {
		t.Errorf("Text(%d) = %d tokens, %d, not %d", i, len(l), err, tokens)
	}
}

func TestTextOfTooManyTokens(t *testing.T) {
	x := doubles(12)
	for i := range 12 {
		text(t, x, i, 1<<(i+1)-1)
	}
	// 2,047, 2,048, 2,049 tokens, by one token more each.
	next := x.add(api.Item{Op: api.Next, A: 10, B: none})
	text(t, x, next, 2048)
	text(t, x, x.add(api.Item{Op: api.Weak, A: next, B: none}), 2049)
	text(t, x, x.add(api.Item{Op: api.Or, A: 0, B: 10}), 2049)
	text(t, x, x.add(api.Item{Op: api.Or, A: 10, B: 0}), 2049)
	text(t, x, x.add(api.Item{Op: api.Until, A: 9, B: 9}), 2047)
	text(t, x, x.add(api.Item{Op: api.Until, A: 10, B: 10}), 4095)
	text(t, x, x.add(api.Item{Op: api.Until, A: 11, B: 11}), 8191)
	// It is told behind ErrNil and ErrMissing, and by Text alone.
	for _, i := range []int{-1, len(x.items)} {
		if l, err := x.Text(i); l != nil || err != api.ErrMissing {
			t.Error(i, len(l), err)
		}
	}
	if l, err := new(Table).Text(11); l != nil || err != api.ErrNil {
		t.Error(len(l), err)
	}
	if item, err := x.Item(11); item != (api.Item{Op: api.And, A: 10, B: 10}) || err != api.OK {
		t.Error(item, err)
	}
	if l, err := x.Below(11); !slices.Equal(l, []int{0, 1, 2, 3, 4, 5, 6, 7, 8, 9, 10, 11}) || err != api.OK {
		t.Error(l, err)
	}
}

func TestTextOfMoreTokensThanThereIsRoomFor(t *testing.T) {
	x := doubles(api.MaxItems)
	for i := 11; i < x.Len(); i++ {
		text(t, x, i, 2049)
	}
	if l, err := x.Below(4095); len(l) != 4096 || err != api.OK {
		t.Error(len(l), err)
	}
	// Each item takes one alone: there are as many tokens as items.
	y := New()
	y.add(api.Item{Op: api.Over, A: none, B: none})
	for i := range api.MaxItems - 1 {
		y.add(api.Item{Op: api.Next, A: i, B: none})
	}
	text(t, y, 2047, 2048)
	text(t, y, 2048, 2049)
	text(t, y, 4095, 4096)
}

func TestWhatIsTakenOutIsNotKept(t *testing.T) {
	x := New()
	x.add(api.Item{Op: api.True, A: none, B: none})
	for i := range api.MaxItems - 2 {
		x.add(api.Item{Op: api.Next, A: i, B: none})
	}
	if _, err := x.Keep([]api.Tok{{Op: api.False}, {Op: api.Next}}); err != api.ErrLong {
		t.Error(err)
	}
	if len(x.items) != api.MaxItems-1 || len(x.numbers) != api.MaxItems-1 {
		t.Error(len(x.items), len(x.numbers))
	}
}
