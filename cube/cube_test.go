package cube_test

import (
	"math"
	"slices"
	"strings"
	"testing"

	"rejoinder/api"
	"rejoinder/cube"
)

// No numbers of propositions, among them some that a shorter kind of number would take for one.
var outside = []int{-1, -2, -8, 9, 10, 16, 63, 64, 65, 256, 257, math.MaxInt32, math.MaxInt, math.MinInt, math.MinInt + 2}

// The tests speak of cubes by their texts, and work out what is asked of them sign by sign.

// read is the cube of a text of at most 8 signs, by the document's words alone.
func read(s string) api.Cube {
	var c api.Cube
	for i, sign := range s {
		if sign != '-' {
			c.Care += 1 << i
		}
		if sign == '1' {
			c.Value += 1 << i
		}
	}
	return c
}

func readAll(texts ...string) []api.Cube {
	var l []api.Cube
	for _, s := range texts {
		l = append(l, read(s))
	}
	return l
}

// texts lists all texts of n signs.
func texts(signs string, n int) []string {
	all := []string{""}
	for range n {
		var longer []string
		for _, s := range all {
			for i := range len(signs) {
				longer = append(longer, s+signs[i:i+1])
			}
		}
		all = longer
	}
	return all
}

// holds tells whether a letter is one of those of a text.
func holds(s string, l int) bool {
	for i, sign := range s {
		if sign == '1' && l>>i%2 == 0 || sign == '0' && l>>i%2 == 1 {
			return false
		}
	}
	return true
}

// is tells, bit by bit, whether a letter is a cube's.
func is(c api.Cube, l int) bool {
	for i := range 8 {
		care, value, bit := c.Care>>i%2 == 1, c.Value>>i%2 == 1, l>>i%2 == 1
		if value && !care || care && bit != value {
			return false
		}
	}
	return true
}

// lettersOf lists a cube's letters of 8 propositions.
func lettersOf(c api.Cube) []int {
	var l []int
	for i := range 256 {
		if is(c, i) {
			l = append(l, i)
		}
	}
	return l
}

// everyCube lists all cubes, those that may not be, too.
func everyCube() []api.Cube {
	var all []api.Cube
	for care := range 256 {
		for value := range 256 {
			all = append(all, api.Cube{Care: api.Letter(care), Value: api.Letter(value)})
		}
	}
	return all
}

// someCubes lists the cubes of few bits, at both ends of a letter, with some others of all bits.
func someCubes() []api.Cube {
	var some []api.Cube
	for care := range 8 {
		for value := range 8 {
			low := api.Cube{Care: api.Letter(care), Value: api.Letter(value)}
			some = append(some, low, api.Cube{Care: low.Care << 5, Value: low.Value << 5})
		}
	}
	for i := range 120 {
		care := api.Letter(i * 151)
		some = append(some, api.Cube{Care: care, Value: care & api.Letter(i*77)}, api.Cube{Care: care, Value: api.Letter(i * 77)})
	}
	return append(some, api.Cube{Care: 255}, api.Cube{Care: 255, Value: 255}, api.Cube{Value: 255})
}

// P2.1

func TestCheck(t *testing.T) {
	for _, c := range everyCube() {
		may := true
		top := 0
		for i := range 8 {
			if c.Value>>i%2 == 1 && c.Care>>i%2 == 0 {
				may = false
			}
			if c.Care>>i%2 == 1 {
				top = i + 1
			}
		}
		for n := range 9 {
			want := api.ErrCube
			if may && top <= n {
				want = api.OK
			}
			if e := cube.Check(n, c); e != want {
				t.Fatalf("%d %v: %d, want %d", n, c, e, want)
			}
		}
	}
}

func TestNumbersOutsideAreToldFirst(t *testing.T) {
	for _, n := range outside {
		for _, c := range []api.Cube{{}, {Care: 1}, {Care: 255, Value: 255}, {Care: 1, Value: 2}, {Value: 255}} {
			if e := cube.Check(n, c); e != api.ErrArg {
				t.Errorf("Check %d %v: %d", n, c, e)
			}
			if k, e := cube.Count(n, c); k != 0 || e != api.ErrArg {
				t.Errorf("Count %d %v: %d %d", n, c, k, e)
			}
			if l, e := cube.Letters(n, c); len(l) != 0 || e != api.ErrArg {
				t.Errorf("Letters %d %v: %v %d", n, c, l, e)
			}
			if s, e := cube.Print(n, c); s != "" || e != api.ErrArg {
				t.Errorf("Print %d %v: %q %d", n, c, s, e)
			}
		}
		for _, l := range [][]api.Letter{nil, {}, {0}, {255}} {
			if got, e := cube.Cover(n, l); len(got) != 0 || e != api.ErrArg {
				t.Errorf("Cover %d %v: %v %d", n, l, got, e)
			}
		}
		for _, s := range []string{"", "1", "2", "---------", "----------", strings.Repeat("-", 16), strings.Repeat("1", 64), strings.Repeat("-", 256)} {
			if c, e := cube.Parse(n, s); c != (api.Cube{}) || e != api.ErrArg {
				t.Errorf("Parse %d %q: %v %d", n, s, c, e)
			}
		}
	}
}

func TestHas(t *testing.T) {
	for _, c := range everyCube() {
		for l := range 256 {
			if got := cube.Has(c, api.Letter(l)); got != is(c, l) {
				t.Fatalf("%v %d: %v", c, l, got)
			}
		}
	}
}

func TestHasOfACubeThatMayNotBe(t *testing.T) {
	for _, c := range []api.Cube{{Care: 1, Value: 2}, {Value: 1}, {Care: 254, Value: 255}, {Care: 127, Value: 128}} {
		for l := range 256 {
			if cube.Has(c, api.Letter(l)) {
				t.Errorf("%v has %d", c, l)
			}
		}
	}
}

func TestMeetAndWithinByLetters(t *testing.T) {
	some := someCubes()
	for _, a := range some {
		of := lettersOf(a)
		for _, b := range some {
			common := slices.DeleteFunc(slices.Clone(of), func(l int) bool { return !is(b, l) })
			m, ok := cube.Meet(a, b)
			if ok != (len(common) > 0) || !ok && m != (api.Cube{}) {
				t.Fatalf("Meet %v %v: %v %v", a, b, m, ok)
			}
			if ok && !slices.Equal(lettersOf(m), common) {
				t.Fatalf("Meet %v %v: %v", a, b, m)
			}
			if got := cube.Within(a, b); got != (len(common) == len(of)) {
				t.Fatalf("Within %v %v: %v", a, b, got)
			}
		}
	}
}

func TestMeetBySigns(t *testing.T) {
	for a, list := range map[string][][3]string{
		"1--": {{"-0-", "10-", "yes"}, {"0--", "", "no"}, {"1--", "1--", "yes"}, {"---", "1--", "yes"}, {"-11", "111", "yes"}},
		"---": {{"---", "---", "yes"}, {"010", "010", "yes"}, {"--0", "--0", "yes"}},
		"01-": {{"-01", "", "no"}, {"-11", "011", "yes"}, {"00-", "", "no"}, {"--0", "010", "yes"}},
	} {
		for _, c := range list {
			m, ok := cube.Meet(read(a), read(c[0]))
			if m != read(c[1]) || ok != (c[2] == "yes") {
				t.Errorf("%s %s: %v %v", a, c[0], m, ok)
			}
			if m, ok := cube.Meet(read(c[0]), read(a)); m != read(c[1]) || ok != (c[2] == "yes") {
				t.Errorf("%s %s: %v %v", c[0], a, m, ok)
			}
		}
	}
}

func TestWithinOfNone(t *testing.T) {
	none := []api.Cube{{Care: 1, Value: 2}, {Value: 128}}
	for _, a := range none {
		for _, b := range append([]api.Cube{{}, {Care: 255, Value: 255}}, none...) {
			if !cube.Within(a, b) {
				t.Errorf("%v has no letters: it is within %v", a, b)
			}
		}
		for _, b := range []api.Cube{{}, {Care: 255}, {Care: 3, Value: 2}} {
			if cube.Within(b, a) {
				t.Errorf("%v has no letters: %v is not within it", a, b)
			}
		}
	}
}

// P2.2

// minus works the list out as the document says it, sign by sign, of cubes with a letter in common.
func minus(a, b string) []string {
	var out []string
	so := []byte(a)
	for i := range a {
		if a[i] != '-' || b[i] == '-' {
			continue
		}
		so[i] = '0' + '1' - b[i]
		out = append(out, string(so))
		so[i] = b[i]
	}
	return out
}

func TestMinusBySigns(t *testing.T) {
	all := texts("01-", 4)
	for _, a := range all {
		for _, b := range all {
			want := []string{a}
			for l := range 16 {
				if holds(a, l) && holds(b, l) {
					want = minus(a, b)
				}
			}
			if got := cube.Minus(read(a), read(b)); !slices.Equal(got, readAll(want...)) {
				t.Fatalf("%s %s: %v, want %v", a, b, got, want)
			}
		}
	}
}

func TestMinusOfAllEight(t *testing.T) {
	for _, c := range []struct {
		a, b string
		want []string
	}{
		{"--------", "11111111", []string{"0-------", "10------", "110-----", "1110----", "11110---", "111110--", "1111110-", "11111110"}},
		{"--------", "00000000", []string{"1-------", "01------", "001-----", "0001----", "00001---", "000001--", "0000001-", "00000001"}},
		{"--------", "-------1", []string{"-------0"}},
		{"-1-----0", "0-1-----", []string{"11-----0", "010----0"}},
		{"11111111", "--------", nil},
		{"--------", "--------", nil},
		{"11111111", "11111111", nil},
		{"11111111", "11111110", []string{"11111111"}},
		{"1-------", "0-------", []string{"1-------"}},
	} {
		if got := cube.Minus(read(c.a), read(c.b)); !slices.Equal(got, readAll(c.want...)) {
			t.Errorf("%s %s: %v", c.a, c.b, got)
		}
	}
}

func TestMinusWithCubesThatMayNotBe(t *testing.T) {
	none := []api.Cube{{Care: 1, Value: 2}, {Value: 1}, {Value: 255}, {Care: 127, Value: 255}}
	for _, c := range none {
		for _, other := range append([]api.Cube{{}, {Care: 3, Value: 1}, {Care: 255}}, none...) {
			if got := cube.Minus(c, other); len(got) != 0 {
				t.Errorf("%v less %v: %v", c, other, got)
			}
		}
		for _, a := range []api.Cube{{}, {Care: 3, Value: 1}, {Care: 255}, {Care: 1, Value: 1}} {
			if got := cube.Minus(a, c); !slices.Equal(got, []api.Cube{a}) {
				t.Errorf("%v less %v: %v", a, c, got)
			}
		}
	}
}

// P2.6: each letter of a that is not b's is in just one, no other letter is in any.
func TestMinusByLetters(t *testing.T) {
	some := someCubes()
	for _, a := range some {
		for _, b := range some {
			var in [256]int
			for _, c := range cube.Minus(a, b) {
				if e := cube.Check(8, c); e != api.OK {
					t.Fatalf("%v %v: %v, %d", a, b, c, e)
				}
				for _, l := range lettersOf(c) {
					in[l]++
				}
			}
			for l, times := range in {
				want := 0
				if is(a, l) && !is(b, l) {
					want = 1
				}
				if times != want {
					t.Fatalf("%v %v: %d is in %d", a, b, l, times)
				}
			}
		}
	}
}

// P2.3

func TestCountAndLetters(t *testing.T) {
	for n := range 9 {
		for _, s := range texts("01-", n) {
			var want []api.Letter
			for l := range 1 << n {
				if holds(s, l) {
					want = append(want, api.Letter(l))
				}
			}
			if got, e := cube.Letters(n, read(s)); !slices.Equal(got, want) || e != api.OK {
				t.Fatalf("Letters %q: %v %d", s, got, e)
			}
			if k, e := cube.Count(n, read(s)); k != len(want) || e != api.OK {
				t.Fatalf("Count %q: %d %d", s, k, e)
			}
		}
	}
}

func TestCountAndLettersAtTheEnds(t *testing.T) {
	for _, c := range []struct {
		n    int
		c    api.Cube
		want int
		from api.Letter
	}{
		{0, api.Cube{}, 1, 0},
		{8, api.Cube{}, 256, 0},
		{8, api.Cube{Care: 255, Value: 255}, 1, 255},
		{8, api.Cube{Care: 255}, 1, 0},
		{8, api.Cube{Care: 128, Value: 128}, 128, 128},
		{1, api.Cube{Care: 1, Value: 1}, 1, 1},
		{7, api.Cube{Care: 64, Value: 64}, 64, 64},
	} {
		if k, e := cube.Count(c.n, c.c); k != c.want || e != api.OK {
			t.Errorf("Count %d %v: %d %d", c.n, c.c, k, e)
		}
		l, e := cube.Letters(c.n, c.c)
		if len(l) != c.want || l[0] != c.from || !slices.IsSorted(l) || e != api.OK {
			t.Errorf("Letters %d %v: %v %d", c.n, c.c, l, e)
		}
	}
}

func TestCubesOfOtherNumbersAreRefused(t *testing.T) {
	for _, c := range []struct {
		n int
		c api.Cube
	}{
		{0, api.Cube{Care: 1}},
		{0, api.Cube{Value: 1}},
		{2, api.Cube{Care: 4}},
		{2, api.Cube{Care: 4, Value: 4}},
		{2, api.Cube{Value: 4}},
		{7, api.Cube{Care: 128, Value: 128}},
		{3, api.Cube{Care: 1, Value: 2}},
		{3, api.Cube{Care: 128, Value: 2}},
		{8, api.Cube{Care: 254, Value: 255}},
		{8, api.Cube{Value: 128}},
	} {
		if e := cube.Check(c.n, c.c); e != api.ErrCube {
			t.Errorf("Check %d %v: %d", c.n, c.c, e)
		}
		if k, e := cube.Count(c.n, c.c); k != 0 || e != api.ErrCube {
			t.Errorf("Count %d %v: %d %d", c.n, c.c, k, e)
		}
		if l, e := cube.Letters(c.n, c.c); len(l) != 0 || e != api.ErrCube {
			t.Errorf("Letters %d %v: %v %d", c.n, c.c, l, e)
		}
		if s, e := cube.Print(c.n, c.c); s != "" || e != api.ErrCube {
			t.Errorf("Print %d %v: %q %d", c.n, c.c, s, e)
		}
	}
}

func TestPrint(t *testing.T) {
	for n := range 9 {
		for _, s := range texts("01-", n) {
			if got, e := cube.Print(n, read(s)); got != s || e != api.OK {
				t.Fatalf("%q: %q %d", s, got, e)
			}
		}
	}
}

// P2.4

// cover works the texts out as the document says it, from the sign p on.
func cover(s string, p int, in []bool) []string {
	met, all := 0, 0
	for l, is := range in {
		if holds(s, l) {
			all++
			if is {
				met++
			}
		}
	}
	if met == 0 {
		return nil
	}
	if met == all {
		return []string{s}
	}
	low := cover(s[:p]+"0"+s[p+1:], p+1, in)
	return append(low, cover(s[:p]+"1"+s[p+1:], p+1, in)...)
}

// checkCover holds a Cover against the document's words, and against the letters that it covers.
func checkCover(t *testing.T, n int, l []api.Letter) {
	t.Helper()
	in := make([]bool, 1<<n)
	for _, one := range l {
		in[one] = true
	}
	got, e := cube.Cover(n, l)
	want := cover(strings.Repeat("-", n), 0, in)
	if e != api.OK || !slices.Equal(got, readAll(want...)) {
		t.Fatalf("%d %v: %v %d, want %v", n, l, got, e, want)
	}
	times := make([]int, 1<<n)
	for _, c := range got {
		for i := range times {
			if is(c, i) {
				times[i]++
			}
		}
	}
	for i, k := range times {
		if in[i] != (k == 1) || k > 1 {
			t.Fatalf("%d %v: %d is in %d cubes", n, l, i, k)
		}
	}
}

// members lists the letters whose bits a set has, rising.
func members(set int) []api.Letter {
	var l []api.Letter
	for i := range 16 {
		if set>>i%2 == 1 {
			l = append(l, api.Letter(i))
		}
	}
	return l
}

func TestCoverOfEverySetOfFewLetters(t *testing.T) {
	for n := range 5 {
		for set := range 1 << (1 << n) {
			checkCover(t, n, members(set))
		}
	}
}

// spread lists letters of n propositions, some of them twice and in no order, others for each seed.
func spread(n, many, seed int) []api.Letter {
	l := make([]api.Letter, many)
	x := uint64(seed)
	for i := range l {
		x = x*6364136223846793005 + 1442695040888963407
		l[i] = api.Letter(x >> (64 - n))
	}
	return l
}

func TestCoverOfManyLetters(t *testing.T) {
	for n := 5; n <= 8; n++ {
		for seed := range 40 {
			for _, many := range []int{1, 2, 7, 30, 100, 250, 700} {
				checkCover(t, n, spread(n, many, seed))
			}
		}
	}
}

func TestCoverOfAllAndOfNone(t *testing.T) {
	for n := range 9 {
		var all []api.Letter
		for l := range 1 << n {
			all = append(all, api.Letter(l))
		}
		if got, e := cube.Cover(n, all); !slices.Equal(got, []api.Cube{{}}) || e != api.OK {
			t.Errorf("all of %d: %v %d", n, got, e)
		}
		for _, l := range [][]api.Letter{nil, {}} {
			if got, e := cube.Cover(n, l); len(got) != 0 || e != api.OK {
				t.Errorf("none of %d: %v %d", n, got, e)
			}
		}
		for out := range all {
			checkCover(t, n, slices.Delete(slices.Clone(all), out, out+1))
			checkCover(t, n, all[out:out+1])
		}
	}
}

// The letters with an even number of propositions have no cube of more than one letter: no Cover is longer.
func TestCoverOfSingleLetters(t *testing.T) {
	var even []api.Letter
	for l := range 256 {
		bits := 0
		for i := range 8 {
			bits += l >> i % 2
		}
		if bits%2 == 0 {
			even = append(even, api.Letter(l))
		}
	}
	checkCover(t, 8, even)
	if got, _ := cube.Cover(8, even); len(got) != 128 {
		t.Error(len(got))
	}
}

func TestCoverCountsEachLetterOnce(t *testing.T) {
	for n := 1; n < 9; n++ {
		for seed := range 20 {
			l := spread(n, 20, seed)
			once, _ := cube.Cover(n, l)
			sorted := slices.Clone(l)
			slices.Sort(sorted)
			reversed := slices.Clone(l)
			slices.Reverse(reversed)
			for _, other := range [][]api.Letter{sorted, slices.Compact(slices.Clone(sorted)), reversed, slices.Concat(l, reversed, l), slices.Repeat(l, 500)} {
				if got, e := cube.Cover(n, other); !slices.Equal(got, once) || e != api.OK {
					t.Errorf("%d %v: %v, %v %d", n, l, once, got, e)
				}
			}
		}
	}
}

func TestCoverRefuses(t *testing.T) {
	for _, c := range []struct {
		n int
		l []api.Letter
	}{
		{0, []api.Letter{1}},
		{0, []api.Letter{0, 255}},
		{1, []api.Letter{2}},
		{1, []api.Letter{0, 1, 0, 1, 2}},
		{2, []api.Letter{4, 0, 1, 2, 3}},
		{7, []api.Letter{127, 128}},
		{3, append(slices.Repeat([]api.Letter{7}, 100000), 8)},
	} {
		if got, e := cube.Cover(c.n, c.l); len(got) != 0 || e != api.ErrArg {
			t.Errorf("%d, %d letters: %v %d", c.n, len(c.l), got, e)
		}
	}
}

// P2.5

func TestParse(t *testing.T) {
	for n := range 9 {
		for _, s := range texts("01-", n) {
			if c, e := cube.Parse(n, s); c != read(s) || e != api.OK {
				t.Fatalf("%q: %v %d", s, c, e)
			}
		}
	}
}

// Texts that are too short or too long are refused, whatever they are made of.
func TestParseByLength(t *testing.T) {
	for n := range 9 {
		for length := range 20 {
			if length == n {
				continue
			}
			for _, sign := range []string{"0", "1", "-", "x"} {
				if c, e := cube.Parse(n, strings.Repeat(sign, length)); c != (api.Cube{}) || e != api.ErrCube {
					t.Errorf("%d, %d of %s: %v %d", n, length, sign, c, e)
				}
			}
		}
		for _, length := range []int{256 + n, 1 << 20} {
			if c, e := cube.Parse(n, strings.Repeat("-", length)); c != (api.Cube{}) || e != api.ErrCube {
				t.Errorf("%d, %d signs: %v %d", n, length, c, e)
			}
		}
	}
}

func TestParseByEveryByte(t *testing.T) {
	for n := 1; n < 9; n++ {
		for place := range n {
			for b := range 256 {
				text := []byte("10-10-10"[:n])
				text[place] = byte(b)
				s := string(text)
				c, e := cube.Parse(n, s)
				if strings.IndexByte("01-", byte(b)) < 0 {
					if c != (api.Cube{}) || e != api.ErrCube {
						t.Errorf("%q: %v %d", s, c, e)
					}
				} else if c != read(s) || e != api.OK {
					t.Errorf("%q: %v %d", s, c, e)
				}
			}
		}
	}
}

// A sign of several bytes is no sign, as many bytes as the text may have.
func TestParseRefusesOtherSigns(t *testing.T) {
	for _, s := range []string{"–", "1−", "１", "10 ", " 10", "1 0", "0x1", "1.0", "\x00\x01-", "111\n", "\xff\xff\xff", "x--", "--x", "*--", "1-2"} {
		for n := range 9 {
			if c, e := cube.Parse(n, s); c != (api.Cube{}) || e != api.ErrCube {
				t.Errorf("%d %q: %v %d", n, s, c, e)
			}
		}
	}
}

// P2.6 and P12

func TestHasOfMeetIsHasOfBoth(t *testing.T) {
	some := someCubes()
	for _, a := range some {
		for _, b := range some {
			m, ok := cube.Meet(a, b)
			for i := range 256 {
				l := api.Letter(i)
				if both := cube.Has(a, l) && cube.Has(b, l); both != (ok && cube.Has(m, l)) {
					t.Fatalf("%v %v: %v at %d", a, b, m, l)
				}
			}
		}
	}
}

func TestThereAndBack(t *testing.T) {
	for _, c := range everyCube() {
		for n := range 9 {
			s, e := cube.Print(n, c)
			if e != cube.Check(n, c) {
				t.Fatalf("%d %v: %d", n, c, e)
			}
			if e != api.OK {
				continue
			}
			if back, e := cube.Parse(n, s); back != c || e != api.OK {
				t.Fatalf("%d %v: %q read as %v, %d", n, c, s, back, e)
			}
		}
	}
}

func TestLettersOfACoverAreTheLetters(t *testing.T) {
	for seed := range 50 {
		l := spread(8, 90, seed)
		cubes, _ := cube.Cover(8, l)
		var back []api.Letter
		for _, c := range cubes {
			some, e := cube.Letters(8, c)
			if e != api.OK {
				t.Fatal(c, e)
			}
			back = append(back, some...)
		}
		slices.Sort(l)
		slices.Sort(back)
		if !slices.Equal(slices.Compact(l), back) {
			t.Errorf("%v: %v", l, back)
		}
	}
}

// The chapter's table of examples, line by line.
func TestExamples(t *testing.T) {
	if c := read("1-0"); !cube.Has(c, 1) || !cube.Has(c, 3) || cube.Has(c, 5) {
		t.Error("Has")
	}
	if m, ok := cube.Meet(read("1--"), read("-0-")); m != read("10-") || !ok {
		t.Error("Meet", m, ok)
	}
	if m, ok := cube.Meet(read("1--"), read("0--")); m != (api.Cube{}) || ok {
		t.Error("Meet", m, ok)
	}
	if !cube.Within(read("10-"), read("1--")) || cube.Within(read("1--"), read("10-")) {
		t.Error("Within")
	}
	for b, want := range map[string][]api.Cube{"-01": readAll("11-", "100"), "0--": readAll("1--"), "1--": nil} {
		if got := cube.Minus(read("1--"), read(b)); !slices.Equal(got, want) {
			t.Error("Minus", b, got)
		}
	}
	if k, e := cube.Count(3, read("1-0")); k != 2 || e != api.OK {
		t.Error("Count", k, e)
	}
	if l, e := cube.Letters(3, read("1-0")); !slices.Equal(l, []api.Letter{1, 3}) || e != api.OK {
		t.Error("Letters", l, e)
	}
	if c, e := cube.Cover(3, []api.Letter{1, 3, 2, 6}); !slices.Equal(c, readAll("01-", "100", "110")) || e != api.OK {
		t.Error("Cover", c, e)
	}
	if c, e := cube.Cover(3, []api.Letter{0, 1, 2, 3, 4, 5, 6, 7}); !slices.Equal(c, readAll("---")) || e != api.OK {
		t.Error("Cover of all", c, e)
	}
	if c, e := cube.Cover(3, nil); len(c) != 0 || e != api.OK {
		t.Error("Cover of none", c, e)
	}
	if s, e := cube.Print(3, api.Cube{Care: 5, Value: 1}); s != "1-0" || e != api.OK {
		t.Error("Print", s, e)
	}
	if s, e := cube.Print(3, api.Cube{Care: 1, Value: 2}); s != "" || e != api.ErrCube {
		t.Error("Print", s, e)
	}
	if c, e := cube.Parse(3, "1-0"); c != (api.Cube{Care: 5, Value: 1}) || e != api.OK {
		t.Error("Parse", c, e)
	}
	for _, s := range []string{"1-", "1-2"} {
		if c, e := cube.Parse(3, s); c != (api.Cube{}) || e != api.ErrCube {
			t.Error("Parse", s, c, e)
		}
	}
}

// Rule 4: an answer is new memory, its spare room too; nothing that was handed in is changed or kept.

func TestAnswersAreNewMemory(t *testing.T) {
	for name, answer := range map[string]func() []api.Cube{
		"Minus":       func() []api.Cube { return cube.Minus(read("1---"), read("-010")) },
		"Minus alone": func() []api.Cube { return cube.Minus(read("1---"), read("0---")) },
		"Cover":       func() []api.Cube { l, _ := cube.Cover(3, []api.Letter{1, 3, 2, 6}); return l },
		"Cover, all":  func() []api.Cube { l, _ := cube.Cover(1, []api.Letter{0, 1}); return l },
	} {
		first := answer()
		want := slices.Clone(first)
		spoil(first, api.Cube{Care: 77, Value: 77})
		if second := answer(); !slices.Equal(second, want) {
			t.Errorf("%s: %v, want %v", name, second, want)
		}
	}
	for _, c := range []api.Cube{{}, {Care: 5, Value: 1}, {Care: 255, Value: 9}} {
		first, _ := cube.Letters(8, c)
		want := slices.Clone(first)
		spoil(first, 77)
		if second, _ := cube.Letters(8, c); !slices.Equal(second, want) {
			t.Errorf("Letters: %v, want %v", second, want)
		}
	}
}

// spoil writes over a list and its spare room.
func spoil[T any](l []T, with T) {
	for i := range l[:cap(l)] {
		l[:cap(l)][i] = with
	}
}

func TestNothingHandedInIsChanged(t *testing.T) {
	letters := []api.Letter{6, 1, 3, 1, 2, 0, 99, 99}
	list := letters[:6]
	first, e := cube.Cover(3, list)
	if e != api.OK {
		t.Fatal(e)
	}
	_ = append(first, api.Cube{Care: 1})
	if _, e := cube.Cover(1, list); e != api.ErrArg {
		t.Error(e)
	}
	if !slices.Equal(letters, []api.Letter{6, 1, 3, 1, 2, 0, 99, 99}) {
		t.Error(letters)
	}
	want := slices.Clone(first)
	for i := range list {
		list[i] = 0
	}
	if !slices.Equal(first, want) {
		t.Error(first)
	}
	if got, e := cube.Cover(3, list); !slices.Equal(got, readAll("000")) || e != api.OK {
		t.Error(got, e)
	}
}
