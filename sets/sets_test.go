package sets_test

import (
	"math"
	"math/rand"
	"slices"
	"strconv"
	"strings"
	"sync"
	"testing"

	"rejoinder/api"
	"rejoinder/sets"
)

// The tests work out what is asked of a set by its numbers, one by one, told by its digits to the base 2; and of a list by the words of the chapter, each set held against each other one, in no order.

// all is the set of all 64 numbers, top the one of the last number alone.
const (
	all = uint64(math.MaxUint64)
	top = uint64(1) << 63
)

// numbers reads sets: "3 1 5", or "top", or "all".
func numbers(s string) []uint64 {
	var l []uint64
	for _, word := range strings.Fields(s) {
		switch word {
		case "top":
			l = append(l, top)
		case "all":
			l = append(l, all)
		default:
			n, err := strconv.ParseUint(word, 10, 64)
			if err != nil {
				panic("no set: " + word)
			}
			l = append(l, n)
		}
	}
	return l
}

// has lists, number by number, whether a set has it.
func has(s uint64) [64]bool {
	var in [64]bool
	digits := strconv.FormatUint(s, 2)
	for i := range digits {
		in[len(digits)-1-i] = digits[i] == '1'
	}
	return in
}

// lies tells whether each number of a set is one of another.
func lies(a, b uint64) bool {
	inA, inB := has(a), has(b)
	for i := range 64 {
		if inA[i] && !inB[i] {
			return false
		}
	}
	return true
}

// union is the set of the numbers of both.
func union(a, b uint64) uint64 {
	inA, inB := has(a), has(b)
	sum, weight := uint64(0), uint64(1)
	for i := range 64 {
		if inA[i] || inB[i] {
			sum += weight
		}
		weight *= 2
	}
	return sum
}

// least works the least sets out: the least number of those that are left is taken, as long as there is one, if no other set lies within it.
func least(l []uint64) []uint64 {
	left := slices.Clone(l)
	var answer []uint64
	for len(left) > 0 {
		s := slices.Min(left)
		left = slices.DeleteFunc(left, func(x uint64) bool { return x == s })
		if !slices.ContainsFunc(l, func(x uint64) bool { return x != s && lies(x, s) }) {
			answer = append(answer, s)
		}
	}
	return answer
}

// isLeast tells, by the chapter's words, whether a list is least: rising, none twice, none within another.
func isLeast(l []uint64) bool {
	for i, a := range l {
		if i > 0 && l[i-1] >= a {
			return false
		}
		for j, b := range l {
			if i != j && lies(b, a) {
				return false
			}
		}
	}
	return true
}

// holds tells whether some set of a list lies within held.
func holds(l []uint64, held uint64) bool {
	return slices.ContainsFunc(l, func(s uint64) bool { return lies(s, held) })
}

// unions lists all unions of a set of the one and a set of the other.
func unions(a, b []uint64) []uint64 {
	var l []uint64
	for _, x := range b {
		for _, y := range a {
			l = append(l, union(x, y))
		}
	}
	return l
}

// lists are all lists of at most long sets out of those that are said.
func lists(from []uint64, long int) [][]uint64 {
	every := [][]uint64{nil}
	begin := 0
	for range long {
		end := len(every)
		for _, l := range every[begin:end] {
			for _, s := range from {
				every = append(every, append(slices.Clip(l), s))
			}
		}
		begin = end
	}
	return every
}

// few are the sets of three numbers, the first and the last among them.
func few() []uint64 {
	var l []uint64
	for _, a := range []uint64{0, 1} {
		for _, b := range []uint64{0, 1 << 31} {
			for _, c := range []uint64{0, top} {
				l = append(l, a|b|c)
			}
		}
	}
	return l
}

// three are the sets of the numbers 0, 1 and 2.
func three() []uint64 { return []uint64{0, 1, 2, 3, 4, 5, 6, 7} }

// random is a list of so many sets, of few numbers each or of many, some of them twice.
func random(r *rand.Rand, long int) []uint64 {
	l := make([]uint64, 0, long)
	sparse := r.Intn(4)
	for range long {
		s := r.Uint64()
		for range sparse {
			s &= r.Uint64()
		}
		if len(l) > 0 && r.Intn(5) == 0 {
			s = l[r.Intn(len(l))]
		}
		l = append(l, s)
	}
	return l
}

// or is Or, where nothing is refused.
func or(t *testing.T, a, b []uint64) []uint64 {
	t.Helper()
	l, err := sets.Or(a, b)
	if err != api.OK {
		t.Fatalf("Or of %d and %d sets: %d", len(a), len(b), err)
	}
	return l
}

// and is And, where nothing is refused.
func and(t *testing.T, a, b []uint64) []uint64 {
	t.Helper()
	l, err := sets.And(a, b)
	if err != api.OK {
		t.Fatalf("And of %d and %d sets: %d", len(a), len(b), err)
	}
	return l
}

// P10.1

// edges are lists that the chapter's words name, or that a lesser kind of number would mistake.
var edges = []string{
	"", "0", "1", "all", "top", "0 0", "1 1", "0 1", "1 0", "0 all", "all 0", "1 top", "top 1", "all all all",
	"1 2 4 8", "8 4 2 1", "1 3 7 15", "15 7 3 1", "3 5 6", "6 5 3", "1 6", "6 1", "6 7", "7 6", "1 6 6", "1 1 6",
	"top all", "all top", "9223372036854775807 top", "top 9223372036854775807", "9223372036854775809 top", "1 9223372036854775809",
	"4294967296 1", "1 4294967296", "4294967297 4294967296", "2147483648 top", "4294967295 18446744069414584320",
}

func TestLeast(t *testing.T) {
	for _, x := range []struct{ l, want string }{
		{"3 1 5 1", "1"}, {"6 0", "0"}, {"", ""}, {"0", "0"}, {"7", "7"}, {"all", "all"}, {"top", "top"},
		{"5 5 5", "5"}, {"0 0", "0"}, {"8 4 2 1", "1 2 4 8"}, {"1 3 7 15", "1"}, {"6 5 3", "3 5 6"},
		{"6 1 6", "1 6"}, {"7 6", "6"}, {"12 10 9 6 5 3 15", "3 5 6 9 10 12"}, {"all top 1", "1 top"},
		{"top 2 all 4", "2 4 top"}, {"9223372036854775809 top 1", "1 top"}, {"9223372036854775809 6", "6 9223372036854775809"},
		{"4294967297 1", "1"}, {"4294967296 1", "1 4294967296"}, {"all 0 top", "0"},
	} {
		if got := sets.Least(numbers(x.l)); !slices.Equal(got, numbers(x.want)) {
			t.Errorf("Least(%s) = %v, not %s", x.l, got, x.want)
		}
	}
	if got := sets.Least([]uint64{}); len(got) != 0 {
		t.Error("of an empty list:", got)
	}
}

func TestLeastByTheWords(t *testing.T) {
	var every [][]uint64
	for _, s := range edges {
		every = append(every, numbers(s))
	}
	every = append(every, lists(three(), 4)...)
	every = append(every, lists(few(), 3)...)
	r := rand.New(rand.NewSource(10))
	for i := range 400 {
		every = append(every, random(r, i%40))
	}
	for _, l := range every {
		want := least(l)
		if got := sets.Least(l); !slices.Equal(got, want) {
			t.Fatalf("Least(%v) = %v, not %v", l, got, want)
		}
		if got := sets.Check(l); got != isLeast(l) {
			t.Fatalf("Check(%v) = %t", l, got)
		}
		if !sets.Check(want) {
			t.Fatalf("Check(%v) = false", want)
		}
	}
}

func TestCheck(t *testing.T) {
	for s, want := range map[string]bool{
		"": true, "0": true, "5": true, "all": true, "top": true, "1 6": true, "3 5 6": true, "1 2 4 8": true, "1 top": true,
		"9223372036854775807 top": true,
		// Not rising.
		"6 1": false, "1 4 2": false, "2 1 4": false, "6 5 3": false, "top 1": false, "top 9223372036854775807": false,
		// One twice.
		"0 0": false, "1 1": false, "1 6 6": false, "1 1 6": false, "top top": false, "all all": false,
		// One within another: beside it, further off, and the empty set.
		"1 3": false, "1 6 7": false, "1 2 5": false, "2 4 8 9 18": false, "0 1": false, "0 all": false, "1 all": false, "top all": false,
		"1 9223372036854775809": false,
	} {
		if got := sets.Check(numbers(s)); got != want {
			t.Errorf("Check(%s) = %t", s, got)
		}
	}
	if !sets.Check(nil) || !sets.Check([]uint64{}) {
		t.Error("without sets")
	}
}

// Least and Check refuse no list: of any length they tell what is asked.
func TestLeastOfLongLists(t *testing.T) {
	var l []uint64
	for i := range uint64(1 << 13) {
		l = append(l, (1<<13-i)<<1)
	}
	want := numbers("2 4 8 16 32 64 128 256 512 1024 2048 4096 8192 16384")
	if got := sets.Least(l); !slices.Equal(got, want) {
		t.Error(got)
	}
	for _, n := range []int{1023, 1024, 1025, 1326} {
		if !sets.Check(antichain(n)) {
			t.Error("Check", n)
		}
	}
	same := make([]uint64, 1<<20)
	for i := range same {
		same[i] = 5
	}
	if got := sets.Least(same); !slices.Equal(got, []uint64{5}) {
		t.Error(got)
	}
	if sets.Check(same) {
		t.Error("Check of one set, ever again")
	}
	same[1<<19] = 4
	if got := sets.Least(same); !slices.Equal(got, []uint64{4}) {
		t.Error(got)
	}
}

func TestItems(t *testing.T) {
	for s, want := range map[uint64][]int{
		0: nil, 1: {0}, 2: {1}, 3: {0, 1}, 13: {0, 2, 3}, top: {63}, top | 1: {0, 63}, 1 << 31: {31}, 1 << 32: {32}, 3 << 31: {31, 32}, top >> 1: {62},
	} {
		if got := sets.Items(s); !slices.Equal(got, want) {
			t.Errorf("Items(%d) = %v, not %v", s, got, want)
		}
	}
	every := sets.Items(all)
	if len(every) != 64 {
		t.Fatal(every)
	}
	for i, item := range every {
		if item != i {
			t.Fatal(every)
		}
		if got := sets.Items(1 << i); !slices.Equal(got, []int{i}) {
			t.Errorf("Items of %d alone: %v", i, got)
		}
		if got := sets.Items(all &^ (1 << i)); len(got) != 63 || slices.Contains(got, i) || !slices.IsSorted(got) {
			t.Errorf("Items of all but %d: %v", i, got)
		}
	}
	r := rand.New(rand.NewSource(1))
	for range 2000 {
		s := random(r, 1)[0]
		var want []int
		for i, in := range has(s) {
			if in {
				want = append(want, i)
			}
		}
		if got := sets.Items(s); !slices.Equal(got, want) {
			t.Fatalf("Items(%d) = %v, not %v", s, got, want)
		}
	}
}

func TestTrue(t *testing.T) {
	if got := sets.True(); !slices.Equal(got, []uint64{0}) {
		t.Error(got)
	}
	if !sets.Check(sets.True()) || !sets.Holds(sets.True(), 0) {
		t.Error("True is least, and holds of nothing")
	}
}

// P10.2

func TestOrAndAnd(t *testing.T) {
	for _, x := range []struct{ a, b, or, and string }{
		{"", "", "", ""}, {"", "0", "0", ""}, {"0", "", "0", ""}, {"", "3 1 2", "1 2", ""}, {"3 1 2", "", "1 2", ""},
		{"0", "0", "0", "0"}, {"0", "1 6", "0", "1 6"}, {"1 6", "0", "0", "1 6"}, {"0", "6 7 1 1", "0", "1 6"},
		{"1", "2 3", "1 2", "3"}, {"1 4", "2", "1 2 4", "3 6"}, {"1 2", "1 4", "1 2 4", "1 6"},
		{"1", "1", "1", "1"}, {"6 1", "6 1", "1 6", "1 6"}, {"1", "top", "1 top", "9223372036854775809"},
		{"top", "1", "1 top", "9223372036854775809"}, {"all", "1", "1", "all"}, {"all", "all", "all", "all"}, {"all", "0", "0", "all"},
		{"3 5", "6 5", "3 5 6", "5"}, {"1 2 4", "1 2 4", "1 2 4", "1 2 4"}, {"3 12", "5 10", "3 5 10 12", "7 11 13 14"},
		{"4294967296", "1", "1 4294967296", "4294967297"},
	} {
		a, b := numbers(x.a), numbers(x.b)
		if got := or(t, a, b); !slices.Equal(got, numbers(x.or)) {
			t.Errorf("Or(%s; %s) = %v, not %s", x.a, x.b, got, x.or)
		}
		if got := and(t, a, b); !slices.Equal(got, numbers(x.and)) {
			t.Errorf("And(%s; %s) = %v, not %s", x.a, x.b, got, x.and)
		}
	}
}

// byTheWords holds Or and And of two lists against the chapter's words.
func byTheWords(t *testing.T, a, b []uint64) {
	t.Helper()
	if got, want := or(t, a, b), least(slices.Concat(b, a)); !slices.Equal(got, want) {
		t.Fatalf("Or(%v; %v) = %v, not %v", a, b, got, want)
	}
	if got, want := and(t, a, b), least(unions(a, b)); !slices.Equal(got, want) {
		t.Fatalf("And(%v; %v) = %v, not %v", a, b, got, want)
	}
}

func TestOrAndAndByTheWords(t *testing.T) {
	every := lists(three(), 2)
	for _, s := range edges {
		every = append(every, numbers(s))
	}
	for _, a := range every {
		for _, b := range every {
			byTheWords(t, a, b)
		}
	}
	r := rand.New(rand.NewSource(2))
	for range 200 {
		byTheWords(t, random(r, r.Intn(12)), random(r, r.Intn(12)))
	}
}

// antichain is a least list of n sets (at most 1,326): those of two numbers out of 52, rising.
func antichain(n int) []uint64 {
	var l []uint64
	for i := range 52 {
		for j := range i {
			l = append(l, 1<<i|1<<j)
		}
	}
	return l[:n]
}

// kinds are lists of n sets each: one that is least, such as are not: falling, one set ever again, the least of them at the end.
func kinds(n int) map[string][]uint64 {
	rising := antichain(n)
	falling := slices.Clone(rising)
	slices.Reverse(falling)
	again := make([]uint64, n)
	for i := range again {
		again[i] = top | 1
	}
	absorbed := slices.Clone(rising)
	if n > 0 {
		absorbed[n-1] = 0
	}
	return map[string][]uint64{"least": rising, "falling": falling, "again": again, "absorbed": absorbed}
}

func TestKindsAreWhatTheySay(t *testing.T) {
	for name, l := range kinds(1025) {
		if is := isLeast(l); is != (name == "least") || len(l) != 1025 {
			t.Error(name, is, len(l))
		}
	}
}

func TestOrAtItsLimit(t *testing.T) {
	for _, x := range []struct {
		a, b int
		want api.Errno
	}{
		{0, 1023, api.OK}, {0, 1024, api.OK}, {0, 1025, api.ErrObligations},
		{1023, 0, api.OK}, {1024, 0, api.OK}, {1025, 0, api.ErrObligations},
		{1, 1022, api.OK}, {1, 1023, api.OK}, {1, 1024, api.ErrObligations}, {1024, 1, api.ErrObligations}, {1023, 1, api.OK},
		{511, 512, api.OK}, {512, 512, api.OK}, {512, 513, api.ErrObligations}, {513, 512, api.ErrObligations},
		{700, 323, api.OK}, {700, 324, api.OK}, {700, 325, api.ErrObligations}, {1024, 1024, api.ErrObligations}, {1200, 1300, api.ErrObligations},
	} {
		for nameA, a := range kinds(x.a) {
			for nameB, b := range kinds(x.b) {
				got, err := sets.Or(a, b)
				if err != x.want {
					t.Errorf("Or of %d %s and %d %s: %d", x.a, nameA, x.b, nameB, err)
				}
				if err != api.OK && len(got) != 0 {
					t.Errorf("Or of %d and %d: %v beside an error", x.a, x.b, got)
				}
				if err == api.OK && !sets.Check(got) {
					t.Errorf("Or of %d %s and %d %s is not least", x.a, nameA, x.b, nameB)
				}
			}
		}
	}
	// What stays is all of it, if it is least.
	if got := or(t, antichain(1024)[:500], antichain(1024)[500:]); !slices.Equal(got, antichain(1024)) {
		t.Error(len(got))
	}
	if got := or(t, antichain(1024), nil); !slices.Equal(got, antichain(1024)) {
		t.Error(len(got))
	}
}

func TestAndAtItsLimit(t *testing.T) {
	for _, x := range []struct {
		a, b int
		want api.Errno
	}{
		{32, 32, api.OK}, {33, 31, api.OK}, {31, 33, api.OK}, {33, 32, api.ErrObligations}, {32, 33, api.ErrObligations},
		{1, 1023, api.OK}, {1, 1024, api.OK}, {1, 1025, api.ErrObligations}, {1023, 1, api.OK}, {1024, 1, api.OK}, {1025, 1, api.ErrObligations},
		{2, 512, api.OK}, {2, 513, api.ErrObligations}, {512, 2, api.OK}, {513, 2, api.ErrObligations},
		{3, 341, api.OK}, {3, 342, api.ErrObligations}, {341, 3, api.OK}, {342, 3, api.ErrObligations},
		{5, 204, api.OK}, {5, 205, api.ErrObligations}, {205, 5, api.ErrObligations}, {25, 41, api.ErrObligations}, {41, 25, api.ErrObligations},
		{1024, 1024, api.ErrObligations}, {0, 0, api.OK}, {0, 1, api.OK}, {0, 1024, api.OK}, {0, 1025, api.OK}, {1025, 0, api.OK}, {0, 1326, api.OK},
	} {
		for nameA, a := range kinds(x.a) {
			for nameB, b := range kinds(x.b) {
				got, err := sets.And(a, b)
				if err != x.want {
					t.Errorf("And of %d %s and %d %s: %d", x.a, nameA, x.b, nameB, err)
				}
				if (err != api.OK || x.a == 0 || x.b == 0) && len(got) != 0 {
					t.Errorf("And of %d and %d: %v", x.a, x.b, got)
				}
				if err == api.OK && !sets.Check(got) {
					t.Errorf("And of %d %s and %d %s is not least", x.a, nameA, x.b, nameB)
				}
			}
		}
	}
}

// 32 sets of one number each, and 32 of another one: none of their 1,024 unions lies within another.
func TestAndOfAsManyAsMayBe(t *testing.T) {
	var a, b, want []uint64
	for i := range 32 {
		a = append(a, 1<<i)
		b = append(b, top>>i)
	}
	for i := 31; i >= 0; i-- {
		for _, x := range a {
			want = append(want, b[i]|x)
		}
	}
	if got := and(t, a, b); !slices.Equal(got, want) || len(got) != 1024 {
		t.Error(len(got))
	}
	if got := and(t, b, a); !slices.Equal(got, want) {
		t.Error(len(got))
	}
	byTheWords(t, a[:20], b[:15])
}

// Lists whose lengths' product a lesser kind of number would take for a small one.
func TestManySetsAreRefused(t *testing.T) {
	long := make([]uint64, 1<<16)
	for _, n := range []int{1025, 1 << 11, 1 << 15, 1 << 16} {
		for _, m := range []int{1, 2, 3, 1 << 8, 1 << 15, 1 << 16} {
			if l, err := sets.And(long[:n], long[:m]); len(l) != 0 || err != api.ErrObligations {
				t.Error(n, m, err)
			}
			if l, err := sets.And(long[:m], long[:n]); len(l) != 0 || err != api.ErrObligations {
				t.Error(m, n, err)
			}
			if l, err := sets.Or(long[:n], long[:m]); len(l) != 0 || err != api.ErrObligations {
				t.Error(n, m, err)
			}
		}
		if l, err := sets.And(long[:n], nil); len(l) != 0 || err != api.OK {
			t.Error(n, err)
		}
		if l, err := sets.And(nil, long[:n]); len(l) != 0 || err != api.OK {
			t.Error(n, err)
		}
		if l, err := sets.Or(nil, long[:n]); len(l) != 0 || err != api.ErrObligations {
			t.Error(n, err)
		}
	}
}

// P10.3

func TestHolds(t *testing.T) {
	for _, x := range []struct {
		l    string
		held uint64
		want bool
	}{
		{"3 4", 7, true}, {"3 4", 2, false}, {"0", 0, true}, {"", 7, false}, {"", all, false}, {"", 0, false},
		{"1", 0, false}, {"1", 1, true}, {"1", 2, false}, {"3", 1, false}, {"3", 2, false}, {"3 5 6", 5, true}, {"5 3", 3, true}, {"3 5 6", 8, false},
		{"top", top, true}, {"top", all, true}, {"top", all >> 1, false}, {"top 2", 2, true}, {"all", all, true}, {"all", all - 1, false},
		{"1 0", 0, true}, {"0 1", 0, true}, {"4294967296", 1, false}, {"4294967297", 1, false}, {"1", 4294967296, false},
	} {
		if got := sets.Holds(numbers(x.l), x.held); got != x.want {
			t.Errorf("Holds(%s; %d) = %t", x.l, x.held, got)
		}
	}
	if sets.Holds([]uint64{}, all) {
		t.Error("of an empty list")
	}
}

func TestHoldsByTheWords(t *testing.T) {
	for _, l := range lists(three(), 3) {
		for held := range uint64(8) {
			if got := sets.Holds(l, held); got != holds(l, held) {
				t.Fatalf("Holds(%v; %d) = %t", l, held, got)
			}
		}
	}
	r := rand.New(rand.NewSource(3))
	for range 3000 {
		l := random(r, r.Intn(9))
		held := r.Uint64() | r.Uint64() | r.Uint64()
		if got := sets.Holds(l, held); got != holds(l, held) {
			t.Fatalf("Holds(%v; %d) = %t", l, held, got)
		}
	}
}

func TestSame(t *testing.T) {
	for _, x := range []struct {
		a, b string
		want bool
	}{
		{"", "", true}, {"0", "0", true}, {"", "0", false}, {"0", "", false}, {"1 2", "1 2", true},
		// One is a beginning of the other.
		{"1", "1 2", false}, {"1 2", "1", false}, {"1 2", "1 2 0", false}, {"0 0", "0", false}, {"0", "0 0", false},
		// The same sets, at other places, or more than once, or with sets that are not least.
		{"1 2", "2 1", false}, {"1 1", "1", false}, {"1 3", "1", false}, {"1", "1 3", false},
		{"1", "2", false}, {"1 2", "1 3", false}, {"2 1", "3 1", false}, {"top", "0", false}, {"1", "9223372036854775809", false}, {"all", "all", true},
		{"4294967297", "1", false}, {"6 1 6 1", "6 1 6 1", true},
	} {
		if got := sets.Same(numbers(x.a), numbers(x.b)); got != x.want {
			t.Errorf("Same(%s; %s) = %t", x.a, x.b, got)
		}
	}
	if !sets.Same(nil, []uint64{}) || !sets.Same([]uint64{}, nil) || !sets.Same(nil, nil) || sets.Same(nil, []uint64{0}) {
		t.Error("without sets")
	}
}

func TestSamePlaceByPlace(t *testing.T) {
	every := lists(three()[:4], 3)
	for i, a := range every {
		for j, b := range every {
			if got := sets.Same(a, slices.Clone(b)); got != (i == j) {
				t.Fatalf("Same(%v; %v) = %t", a, b, got)
			}
		}
	}
	long := antichain(1326)
	for i := range long {
		other := slices.Clone(long)
		other[i] ^= top
		if sets.Same(long, other) || sets.Same(long, long[:i]) || sets.Same(long[:i], long) {
			t.Fatal(i)
		}
	}
}

// P10.4

func TestLeastHangsOnNoOrder(t *testing.T) {
	r := rand.New(rand.NewSource(4))
	for i := range 300 {
		l := random(r, i%60)
		want := sets.Least(l)
		if !sets.Same(sets.Least(want), want) || !sets.Check(want) {
			t.Fatalf("Least of Least(%v) = %v", l, want)
		}
		for range 4 {
			other := slices.Clone(l)
			r.Shuffle(len(other), func(i, j int) { other[i], other[j] = other[j], other[i] })
			other = append(other, other[:len(other)/2]...)
			if got := sets.Least(other); !slices.Equal(got, want) {
				t.Fatalf("Least(%v) = %v, not %v", other, got, want)
			}
		}
		for range 20 {
			held := r.Uint64() | r.Uint64()
			if sets.Holds(l, held) != sets.Holds(want, held) {
				t.Fatalf("Holds(%v; %d) is not that of its least sets", l, held)
			}
		}
	}
}

// lawsOfTwo holds what follows of two lists, for each of the sets that may be held.
func lawsOfTwo(t *testing.T, a, b, held []uint64) {
	t.Helper()
	either, both := or(t, a, b), and(t, a, b)
	if got := or(t, b, a); !slices.Equal(got, either) {
		t.Fatalf("Or(%v; %v) hangs on the order", a, b)
	}
	if got := and(t, b, a); !slices.Equal(got, both) {
		t.Fatalf("And(%v; %v) hangs on the order", a, b)
	}
	if !sets.Check(either) || !sets.Check(both) {
		t.Fatalf("of %v and %v: not least", a, b)
	}
	for _, h := range held {
		inA, inB := sets.Holds(a, h), sets.Holds(b, h)
		if sets.Holds(either, h) != (inA || inB) {
			t.Fatalf("Holds of Or(%v; %v) at %d", a, b, h)
		}
		if sets.Holds(both, h) != (inA && inB) {
			t.Fatalf("Holds of And(%v; %v) at %d", a, b, h)
		}
	}
}

// lawsOfThree holds what follows of three lists.
func lawsOfThree(t *testing.T, a, b, c []uint64) {
	t.Helper()
	if x, y := or(t, or(t, a, b), c), or(t, a, or(t, b, c)); !slices.Equal(x, y) {
		t.Fatalf("Or of %v, %v and %v hangs on brackets: %v, %v", a, b, c, x, y)
	}
	if x, y := and(t, and(t, a, b), c), and(t, a, and(t, b, c)); !slices.Equal(x, y) {
		t.Fatalf("And of %v, %v and %v hangs on brackets: %v, %v", a, b, c, x, y)
	}
	if x, y := and(t, a, or(t, b, c)), or(t, and(t, a, b), and(t, a, c)); !slices.Equal(x, y) {
		t.Fatalf("And of %v over Or of %v and %v: %v, %v", a, b, c, x, y)
	}
}

func TestLaws(t *testing.T) {
	for _, from := range [][]uint64{three(), few()} {
		every := lists(from, 2)
		for _, a := range every {
			if got := and(t, a, sets.True()); !slices.Equal(got, sets.Least(a)) {
				t.Fatalf("And(%v; True) = %v", a, got)
			}
			if got := or(t, a, nil); !slices.Equal(got, sets.Least(a)) {
				t.Fatalf("Or(%v; none) = %v", a, got)
			}
			if got := and(t, nil, a); len(got) != 0 {
				t.Fatalf("And(none; %v) = %v", a, got)
			}
			for _, b := range every {
				lawsOfTwo(t, a, b, from)
			}
		}
	}
	short := lists(three(), 1)
	short = append(short, numbers("1 2"), numbers("2 1"), numbers("3 5 6"), numbers("7 7"), numbers("4 1 3"), numbers("6 0"), numbers("1 6"))
	for _, a := range short {
		for _, b := range short {
			for _, c := range short {
				lawsOfThree(t, a, b, c)
			}
		}
	}
}

func TestLawsOfSetsOfManyNumbers(t *testing.T) {
	r := rand.New(rand.NewSource(5))
	for range 400 {
		a, b, c := random(r, r.Intn(9)), random(r, r.Intn(9)), random(r, r.Intn(9))
		held := []uint64{0, all, 1, top}
		for range 20 {
			held = append(held, r.Uint64()|r.Uint64()|r.Uint64())
		}
		for _, s := range unions(a, b) {
			held = append(held, s, s&^(1<<r.Intn(64)))
		}
		lawsOfTwo(t, a, b, held)
		lawsOfThree(t, a, b, c)
		if got := and(t, sets.True(), a); !slices.Equal(got, least(a)) {
			t.Fatalf("And(True; %v) = %v", a, got)
		}
		if got := or(t, []uint64{}, a); !slices.Equal(got, least(a)) {
			t.Fatalf("Or(none; %v) = %v", a, got)
		}
	}
}

// With True And takes as many sets as there may be, without sets Or does.
func TestTrueAndNoneAtTheLimit(t *testing.T) {
	for _, l := range kinds(1024) {
		if got := and(t, l, sets.True()); !slices.Equal(got, sets.Least(l)) {
			t.Error("And", len(got))
		}
		if got := or(t, nil, l); !slices.Equal(got, sets.Least(l)) {
			t.Error("Or", len(got))
		}
	}
}

// The chapter's table of examples, line by line.
func TestExamples(t *testing.T) {
	for _, x := range []struct {
		got  []uint64
		want string
	}{
		{sets.Least(numbers("3 1 5 1")), "1"},
		{sets.Least(numbers("6 0")), "0"},
		{sets.Least(nil), ""},
		{or(t, numbers("1"), numbers("2 3")), "1 2"},
		{and(t, numbers("1 4"), numbers("2")), "3 6"},
		{and(t, numbers("1 2"), numbers("1 4")), "1 6"},
	} {
		if !slices.Equal(x.got, numbers(x.want)) {
			t.Errorf("%v, not %s", x.got, x.want)
		}
	}
	if !sets.Check(numbers("1 6")) || sets.Check(numbers("6 1")) || sets.Check(numbers("1 3")) || !sets.Check(nil) {
		t.Error("Check")
	}
	if !sets.Holds(numbers("3 4"), 7) || sets.Holds(numbers("3 4"), 2) || !sets.Holds(numbers("0"), 0) || sets.Holds(nil, 7) {
		t.Error("Holds")
	}
	if l, err := sets.And(antichain(33), antichain(32)); len(l) != 0 || err != api.ErrObligations {
		t.Error(l, err)
	}
	if _, err := sets.And(antichain(32), antichain(32)); err != api.OK {
		t.Error(err)
	}
	if got := sets.Items(13); !slices.Equal(got, []int{0, 2, 3}) {
		t.Error(got)
	}
}

// Rule 4: an answer is new memory, its spare room too; nothing that was handed in is changed, kept or looked at behind its end.

// spoil writes over a list and its spare room.
func spoil[T any](l []T, with T) {
	l = l[:cap(l)]
	for i := range l {
		l[i] = with
	}
}

// answers are what each call that answers a list of sets tells of two lists.
func answers(a, b []uint64) [][]uint64 {
	either, _ := sets.Or(a, b)
	both, _ := sets.And(a, b)
	return [][]uint64{sets.Least(a), sets.Least(b), either, both, sets.True()}
}

// equal tells whether all lists are the same.
func equal(x, y [][]uint64) bool { return slices.EqualFunc(x, y, slices.Equal) }

// twice lists each of the lists again, in other memory.
func twice(x [][]uint64) [][]uint64 {
	var l [][]uint64
	for _, one := range x {
		l = append(l, slices.Clone(one))
	}
	return l
}

// pairs are two lists each: least ones, others, one of no sets, the one that is the neutral one.
func pairs() [][2][]uint64 {
	return [][2][]uint64{
		{numbers("1 6"), numbers("8 16")}, {numbers("6 1"), numbers("16 8")}, {numbers("1 2"), nil}, {nil, numbers("1 2")}, {nil, nil}, {{}, {}},
		{numbers("1 6"), numbers("0")}, {numbers("0"), numbers("1 6")}, {numbers("0"), numbers("0")}, {numbers("7"), {}}, {{}, numbers("7")},
		{numbers("3 1 5 1"), numbers("7 3 2 top all")}, {antichain(32), antichain(32)}, {antichain(1024), nil}, {nil, antichain(1024)}, {antichain(1025), antichain(1)},
	}
}

func TestAnswersAreNewMemory(t *testing.T) {
	for _, x := range pairs() {
		a, b := x[0], x[1]
		wasA, wasB := slices.Clone(a), slices.Clone(b)
		first := answers(a, b)
		want := twice(first)
		for i := range first {
			spoil(first[i], 77)
			// Each other list of the answers, and what was handed in, is as it was.
			for j := i + 1; j < len(first); j++ {
				if !slices.Equal(first[j], want[j]) {
					t.Fatalf("%v: the answer %d shares memory with %d", x, i, j)
				}
			}
			if !slices.Equal(a, wasA) || !slices.Equal(b, wasB) {
				t.Fatalf("%v: the answer %d shares memory with what was handed in", x, i)
			}
		}
		if second := answers(a, b); !equal(second, want) {
			t.Fatalf("%v: %v, then %v", x, want, second)
		}
	}
	first := sets.Items(13)
	spoil(first, -7)
	if second := sets.Items(13); !slices.Equal(second, []int{0, 2, 3}) {
		t.Error(second)
	}
}

func TestWhatWasHandedInIsNotKept(t *testing.T) {
	for _, x := range pairs() {
		a, b := slices.Clone(x[0]), slices.Clone(x[1])
		first := answers(a, b)
		want := twice(first)
		spoil(a, 77)
		spoil(b, 77)
		if !equal(first, want) {
			t.Fatalf("%v: %v, then %v", x, want, first)
		}
		if second := answers(x[0], x[1]); !equal(second, want) {
			t.Fatalf("%v: %v, then %v", x, want, second)
		}
	}
}

func TestNothingHandedInIsChangedOrReadBehindItsEnd(t *testing.T) {
	room := numbers("9 6 1 3 all 5 top 5 2 0 12 0 top 4")
	was := slices.Clone(room)
	for i := range room {
		for j := i; j <= len(room); j++ {
			for k := range room {
				a, b := room[i:j], room[k:min(k+4, len(room))]
				// The spare room has sets that would change what is told.
				got, want := answers(a, b), answers(slices.Clip(slices.Clone(a)), slices.Clip(slices.Clone(b)))
				if !equal(got, want) {
					t.Fatalf("%v %v: %v, not %v", a, b, got, want)
				}
				if sets.Check(a) != isLeast(a) || sets.Holds(a, 8) != holds(a, 8) || sets.Same(a, b) != slices.Equal(a, b) {
					t.Fatalf("%v %v", a, b)
				}
				for n := range got {
					spoil(got[n], 77)
				}
				if !slices.Equal(room, was) {
					t.Fatalf("%v %v: changed to %v", was[i:j], b, room)
				}
			}
		}
	}
}

// One list may be handed in twice.
func TestOneListAsBoth(t *testing.T) {
	l := numbers("6 3 1 6")
	if got := or(t, l, l); !slices.Equal(got, numbers("1 6")) {
		t.Error(got)
	}
	if got := and(t, l, l); !slices.Equal(got, numbers("1 6")) {
		t.Error(got)
	}
	if !sets.Same(l, l) || !slices.Equal(l, numbers("6 3 1 6")) {
		t.Error(l)
	}
}

// P1

// Whatever is asked ends, and tells the same again, whoever asks at the same time.
func TestAnswersHangOnArgumentsAlone(t *testing.T) {
	r := rand.New(rand.NewSource(6))
	var a, b [][]uint64
	var want [][][]uint64
	for i := range 60 {
		a = append(a, random(r, r.Intn(1+i*2)))
		b = append(b, random(r, r.Intn(1+i)))
		want = append(want, answers(a[i], b[i]))
	}
	var asked sync.WaitGroup
	for range 8 {
		asked.Go(func() {
			for i := range a {
				if got := answers(a[i], b[i]); !equal(got, want[i]) {
					t.Errorf("%v %v: %v, not %v", a[i], b[i], got, want[i])
				}
			}
		})
	}
	asked.Wait()
}
