package letter_test

import (
	"math"
	"slices"
	"strings"
	"testing"

	"rejoinder/api"
	"rejoinder/letter"
)

var (
	two   = []string{"p", "q"}
	eight = []string{"p", "q", "r", "s", "t", "u", "v", "w"}
	// A text of all these is as long as a letter's text can be.
	longNames = []string{
		"a2345678901234567890", "b2345678901234567890", "c2345678901234567890", "d2345678901234567890",
		"e2345678901234567890", "f2345678901234567890", "g2345678901234567890", "h2345678901234567890",
	}
	// Names that may not be, with Check's error.
	badNames = []struct {
		names []string
		want  api.Errno
	}{
		{make([]string, 9), api.ErrLong},
		{append(slices.Clone(eight), "x"), api.ErrLong},
		{append(slices.Clone(eight), "p"), api.ErrLong},
		{[]string{"p", "last"}, api.ErrName},
		{[]string{""}, api.ErrName},
		{[]string{"p", "Q", "p"}, api.ErrName},
		{[]string{"p", "p", "Q"}, api.ErrThere},
		{[]string{"p", "q", "p"}, api.ErrThere},
		{[]string{"Q", "Q"}, api.ErrName},
		{[]string{"p", "q", "r", "s", "t", "u", "v", "p"}, api.ErrThere},
	}
)

// P1.1

func TestNameOfOrdinaryTexts(t *testing.T) {
	names := []string{"p", "z", "a0", "p1", "p1q2", "z9", "truely", "true1", "tru", "lasts", "fals", "falsey", "x", "u", "abcdefghijklmnopqrst", "a1234567890123456789"}
	for _, s := range names {
		if !letter.Name(s) {
			t.Errorf("%q is a name", s)
		}
	}
	others := []string{"", "true", "false", "last", "1p", "0", "9", "P", "X", "pQ", "p_q", "p-", "-", "p q", " p", "p ", "p;q", "p\n", "p\x00", "\x00", "ä", "pä", "p\xff", "\xff", "p.", "ｐ", "p{", "p`", "p/", "p:", "@", "[", "abcdefghijklmnopqrstu", strings.Repeat("a", 100000)}
	for _, s := range others {
		if letter.Name(s) {
			t.Errorf("%q is no name", s)
		}
	}
}

func TestNameByEveryByte(t *testing.T) {
	const smalls, digits = "abcdefghijklmnopqrstuvwxyz", "0123456789"
	for b := range 256 {
		c := string([]byte{byte(b)})
		if got, want := letter.Name(c), strings.Contains(smalls, c); got != want {
			t.Errorf("alone, byte %d: %v", b, got)
		}
		if got, want := letter.Name("p"+c+"q"), strings.Contains(smalls+digits, c); got != want {
			t.Errorf("inside, byte %d: %v", b, got)
		}
		if got, want := letter.Name("p"+c), strings.Contains(smalls+digits, c); got != want {
			t.Errorf("at the end, byte %d: %v", b, got)
		}
	}
}

func TestNameByLength(t *testing.T) {
	for n := range 60 {
		if got, want := letter.Name(strings.Repeat("a", n)), n >= 1 && n <= 20; got != want {
			t.Errorf("%d bytes: %v", n, got)
		}
	}
}

func TestCheck(t *testing.T) {
	for _, names := range [][]string{nil, {}, {"p"}, two, eight, longNames, {"p", "pp", "p1"}} {
		if e := letter.Check(names); e != api.OK {
			t.Errorf("%q: %d", names, e)
		}
	}
	for _, c := range badNames {
		if e := letter.Check(c.names); e != c.want {
			t.Errorf("%q: %d, want %d", c.names, e, c.want)
		}
	}
}

func TestCheckKeepsNothing(t *testing.T) {
	for range 3 {
		if e := letter.Check(two); e != api.OK {
			t.Error(e)
		}
		if e := letter.Check([]string{"p", "p"}); e != api.ErrThere {
			t.Error(e)
		}
	}
}

// P1.2

func TestOf(t *testing.T) {
	for _, c := range []struct {
		names, on []string
		want      api.Letter
		err       api.Errno
	}{
		{two, nil, 0, api.OK},
		{two, []string{}, 0, api.OK},
		{nil, nil, 0, api.OK},
		{two, []string{"p"}, 1, api.OK},
		{two, []string{"q"}, 2, api.OK},
		{two, []string{"q", "p"}, 3, api.OK},
		{two, []string{"q", "q"}, 2, api.OK},
		{eight, []string{"w"}, 128, api.OK},
		{eight, []string{"w", "p", "s"}, 137, api.OK},
		{eight, eight, 255, api.OK},
		{longNames, longNames, 255, api.OK},
		{two, []string{"r"}, 0, api.ErrMissing},
		{two, []string{"p", "r", "q"}, 0, api.ErrMissing},
		{two, []string{""}, 0, api.ErrMissing},
		{two, []string{"-"}, 0, api.ErrMissing},
		{two, []string{"p q"}, 0, api.ErrMissing},
		{nil, []string{"p"}, 0, api.ErrMissing},
		{two, []string{"true"}, 0, api.ErrMissing},
	} {
		if l, e := letter.Of(c.names, c.on); l != c.want || e != c.err {
			t.Errorf("%q %q: %d %d", c.names, c.on, l, e)
		}
	}
}

func TestOfWithManyOn(t *testing.T) {
	on := slices.Repeat([]string{"q"}, 5000)
	if l, e := letter.Of(two, on); l != 2 || e != api.OK {
		t.Error(l, e)
	}
	if l, e := letter.Of(two, append(on, "r")); l != 0 || e != api.ErrMissing {
		t.Error(l, e)
	}
}

func TestOfNamesAreCheckedFirst(t *testing.T) {
	for _, c := range badNames {
		for _, on := range [][]string{nil, {"p"}, {"missing"}} {
			if l, e := letter.Of(c.names, on); l != 0 || e != c.want {
				t.Errorf("%q %q: %d %d", c.names, on, l, e)
			}
		}
	}
}

func TestFits(t *testing.T) {
	for n := range 9 {
		for l := range 256 {
			if got, want := letter.Fits(n, api.Letter(l)), l < 1<<n; got != want {
				t.Errorf("%d %d: %v", n, l, got)
			}
		}
	}
	for _, n := range outside {
		if letter.Fits(n, 0) || letter.Fits(n, 1) || letter.Fits(n, 255) {
			t.Errorf("nothing fits %d", n)
		}
	}
}

// No numbers of propositions, among them some that a shorter kind of number would take for one.
var outside = []int{-1, -2, -8, 9, 10, 16, 63, 64, 65, 256, 257, math.MaxInt32, math.MaxInt, math.MinInt, math.MinInt + 2}

func TestAll(t *testing.T) {
	for n := range 9 {
		all := letter.All(n)
		if len(all) != 1<<n {
			t.Fatalf("%d: %d letters", n, len(all))
		}
		for i, l := range all {
			if int(l) != i || !letter.Fits(n, l) {
				t.Errorf("%d: %d at %d", n, l, i)
			}
		}
	}
	for _, n := range outside {
		if all := letter.All(n); len(all) != 0 {
			t.Errorf("%d: %d letters", n, len(all))
		}
	}
}

// P1.3

func TestTrace(t *testing.T) {
	full := make([]api.Letter, 1024)
	over := make([]api.Letter, 1025)
	late := make([]api.Letter, 1024)
	late[1023] = 4
	overAndWrong := make([]api.Letter, 1025)
	overAndWrong[0] = 255
	for _, c := range []struct {
		n    int
		t    []api.Letter
		want api.Errno
	}{
		{0, nil, api.OK},
		{8, []api.Letter{}, api.OK},
		{0, []api.Letter{0}, api.OK},
		{0, []api.Letter{1}, api.ErrArg},
		{2, []api.Letter{0, 1, 2, 3}, api.OK},
		{2, []api.Letter{0, 1, 4, 3}, api.ErrArg},
		{8, []api.Letter{255, 0}, api.OK},
		{7, []api.Letter{127}, api.OK},
		{7, []api.Letter{128}, api.ErrArg},
		{1, full, api.OK},
		{0, full, api.OK},
		{1, over, api.ErrLong},
		{2, late, api.ErrArg},
		{3, late, api.OK},
		{2, overAndWrong, api.ErrLong},
		{1, make([]api.Letter, 100000), api.ErrLong},
	} {
		if e := letter.Trace(c.n, c.t); e != c.want {
			t.Errorf("%d, %d letters: %d, want %d", c.n, len(c.t), e, c.want)
		}
	}
	for _, n := range outside {
		for _, tr := range [][]api.Letter{nil, {0}, over, overAndWrong} {
			if e := letter.Trace(n, tr); e != api.ErrArg {
				t.Errorf("%d, %d letters: %d", n, len(tr), e)
			}
		}
	}
}

// P1.4

func TestPrint(t *testing.T) {
	for _, c := range []struct {
		names []string
		l     api.Letter
		want  string
		err   api.Errno
	}{
		{two, 0, "-", api.OK},
		{two, 1, "p", api.OK},
		{two, 2, "q", api.OK},
		{two, 3, "p q", api.OK},
		{two, 4, "", api.ErrArg},
		{two, 7, "", api.ErrArg},
		{two, 255, "", api.ErrArg},
		{nil, 0, "-", api.OK},
		{nil, 1, "", api.ErrArg},
		{[]string{"q", "p"}, 3, "q p", api.OK},
		{eight, 128, "w", api.OK},
		{eight, 255, "p q r s t u v w", api.OK},
		{eight[:7], 128, "", api.ErrArg},
		{longNames, 255, strings.Join(longNames, " "), api.OK},
	} {
		if s, e := letter.Print(c.names, c.l); s != c.want || e != c.err {
			t.Errorf("%q %d: %q %d", c.names, c.l, s, e)
		}
	}
}

func TestParse(t *testing.T) {
	for _, c := range []struct {
		names []string
		s     string
		want  api.Letter
	}{
		{two, "-", 0},
		{two, "p", 1},
		{two, "q", 2},
		{two, "p q", 3},
		{nil, "-", 0},
		{[]string{"q", "p"}, "q p", 3},
		{eight, "p w", 129},
		{longNames, strings.Join(longNames, " "), 255},
	} {
		if l, e := letter.Parse(c.names, c.s); l != c.want || e != api.OK {
			t.Errorf("%q %q: %d %d", c.names, c.s, l, e)
		}
	}
}

func TestParseRefuses(t *testing.T) {
	texts := []string{"", " ", "  ", "q p", "p p", "- -", "- p", "p -", "--", "-p", " -", "- ", "p  q", "p q ", " p q", " p", "p ", "p\tq", "p\nq", "p,q", "pq", "P", "r", "p r", "p q r", "p q p", "p;q", ";", "true", "last", "0", "1", "3", "p\x00", "p\u00a0q", "\xff", "p\xff"}
	for _, s := range texts {
		if l, e := letter.Parse(two, s); l != 0 || e != api.ErrLetter {
			t.Errorf("%q: %d %d", s, l, e)
		}
	}
	for _, s := range []string{"", "p", " ", "- -"} {
		if l, e := letter.Parse(nil, s); l != 0 || e != api.ErrLetter {
			t.Errorf("no names, %q: %d %d", s, l, e)
		}
	}
	whole := strings.Join(longNames, " ")
	for _, s := range []string{whole + " ", whole + "x", whole + " " + longNames[7], strings.Repeat(" ", 1<<20), strings.Repeat("p ", 1<<20)} {
		if l, e := letter.Parse(longNames, s); l != 0 || e != api.ErrLetter {
			t.Errorf("%d bytes: %d %d", len(s), l, e)
		}
	}
}

// Every text of few bytes over the signs that letters' texts are made of is read just if some letter is told by it.
func TestParseReadsJustWhatPrintTells(t *testing.T) {
	names := []string{"p", "q", "pq"}
	told := map[string]api.Letter{}
	for _, l := range letter.All(len(names)) {
		s, e := letter.Print(names, l)
		if e != api.OK {
			t.Fatal(l, e)
		}
		told[s] = l
	}
	if len(told) != 8 {
		t.Fatal("two letters have one text")
	}
	for _, s := range allTexts("pq -", 6) {
		want, is := told[s]
		l, e := letter.Parse(names, s)
		if is && (l != want || e != api.OK) || !is && (l != 0 || e != api.ErrLetter) {
			t.Errorf("%q: %d %d", s, l, e)
		}
	}
}

func allTexts(signs string, most int) []string {
	texts := []string{""}
	for from, n := 0, 0; n < most; n++ {
		end := len(texts)
		for _, s := range texts[from:end] {
			for i := range len(signs) {
				texts = append(texts, s+signs[i:i+1])
			}
		}
		from = end
	}
	return texts
}

func TestTextsCheckNamesFirst(t *testing.T) {
	for _, c := range badNames {
		for _, l := range []api.Letter{0, 255} {
			if s, e := letter.Print(c.names, l); s != "" || e != c.want {
				t.Errorf("Print %q: %q %d", c.names, s, e)
			}
		}
		for _, s := range []string{"-", "", "p;", strings.Repeat("-", 5000)} {
			if l, e := letter.Parse(c.names, s); l != 0 || e != c.want {
				t.Errorf("Parse %q: %d %d", c.names, l, e)
			}
			if tr, e := letter.ParseTrace(c.names, s); len(tr) != 0 || e != c.want {
				t.Errorf("ParseTrace %q: %d %d", c.names, tr, e)
			}
		}
		for _, tr := range [][]api.Letter{nil, {0}, {255}, make([]api.Letter, 1025)} {
			if s, e := letter.PrintTrace(c.names, tr); s != "" || e != c.want {
				t.Errorf("PrintTrace %q: %q %d", c.names, s, e)
			}
		}
	}
}

// P1.5

func TestPrintTrace(t *testing.T) {
	for _, c := range []struct {
		names []string
		t     []api.Letter
		want  string
		err   api.Errno
	}{
		{two, []api.Letter{1, 0, 3}, "p;-;p q", api.OK},
		{two, nil, "", api.OK},
		{two, []api.Letter{}, "", api.OK},
		{nil, nil, "", api.OK},
		{nil, []api.Letter{0}, "-", api.OK},
		{nil, []api.Letter{0, 0}, "-;-", api.OK},
		{nil, []api.Letter{1}, "", api.ErrArg},
		{two, []api.Letter{1, 4}, "", api.ErrArg},
		{eight, []api.Letter{255, 128}, "p q r s t u v w;w", api.OK},
	} {
		if s, e := letter.PrintTrace(c.names, c.t); s != c.want || e != c.err {
			t.Errorf("%q %d: %q %d", c.names, c.t, s, e)
		}
	}
}

func TestPrintTraceByLength(t *testing.T) {
	s, e := letter.PrintTrace(two, make([]api.Letter, 1024))
	if s != strings.TrimSuffix(strings.Repeat("-;", 1024), ";") || e != api.OK {
		t.Error(len(s), e)
	}
	for _, tr := range [][]api.Letter{make([]api.Letter, 1025), append(make([]api.Letter, 1024), 255)} {
		if s, e := letter.PrintTrace(two, tr); s != "" || e != api.ErrLong {
			t.Error(len(s), e)
		}
	}
	// A letter that may not be is told ahead of a text that is too long.
	wrong := slices.Repeat([]api.Letter{3}, 1024)
	wrong[1023] = 4
	if s, e := letter.PrintTrace([]string{"aaaaaaaaaa", "bbbbbbbbbb"}, wrong); s != "" || e != api.ErrArg {
		t.Error(len(s), e)
	}
	if s, e := letter.PrintTrace(longNames, slices.Repeat([]api.Letter{255}, 1024)); s != "" || e != api.ErrLong {
		t.Error(len(s), e)
	}
}

// A text of 4,096 bytes, and one of 4,097: 1,024 letters of which all but some take four bytes with what stands between.
func TestTraceTextsAtTheLimit(t *testing.T) {
	names := []string{"ppp", "qqqq", "rrrrr"}
	fits := slices.Repeat([]api.Letter{1}, 1024)
	fits[7] = 2
	s, e := letter.PrintTrace(names, fits)
	if len(s) != 4096 || e != api.OK {
		t.Fatal(len(s), e)
	}
	if back, e := letter.ParseTrace(names, s); !slices.Equal(back, fits) || e != api.OK {
		t.Error(len(back), e)
	}
	over := slices.Clone(fits)
	over[7] = 4
	if s, e := letter.PrintTrace(names, over); s != "" || e != api.ErrLong {
		t.Error(len(s), e)
	}
	if tr, e := letter.ParseTrace(names, strings.Replace(s, "qqqq", "rrrrr", 1)); len(tr) != 0 || e != api.ErrLong {
		t.Error(len(tr), e)
	}
}

func TestParseTrace(t *testing.T) {
	for _, c := range []struct {
		names []string
		s     string
		want  []api.Letter
	}{
		{two, "", nil},
		{nil, "", nil},
		{two, "-", []api.Letter{0}},
		{two, "p;-;p q", []api.Letter{1, 0, 3}},
		{nil, "-;-", []api.Letter{0, 0}},
		{eight, "w;p w", []api.Letter{128, 129}},
	} {
		if tr, e := letter.ParseTrace(c.names, c.s); !slices.Equal(tr, c.want) || e != api.OK {
			t.Errorf("%q %q: %d %d", c.names, c.s, tr, e)
		}
	}
}

func TestParseTraceRefuses(t *testing.T) {
	texts := []string{"p;", ";p", ";", ";;", "p;;q", "p; q", "p ;q", " ", "p; ", "p;q p", "p;r", "p,q", "p:q", "-;- -", "-\n", "p;\nq", "p;P", "\x00", "\xff"}
	for _, s := range texts {
		if tr, e := letter.ParseTrace(two, s); len(tr) != 0 || e != api.ErrLetter {
			t.Errorf("%q: %d %d", s, tr, e)
		}
	}
	if tr, e := letter.ParseTrace(nil, "p"); len(tr) != 0 || e != api.ErrLetter {
		t.Error(tr, e)
	}
}

func TestParseTraceByLength(t *testing.T) {
	dashes := func(n int) string { return strings.TrimSuffix(strings.Repeat("-;", n), ";") }
	if tr, e := letter.ParseTrace(two, dashes(1024)); !slices.Equal(tr, make([]api.Letter, 1024)) || e != api.OK {
		t.Error(len(tr), e)
	}
	for s, want := range map[string]api.Errno{
		dashes(1025):                 api.ErrLetter,
		dashes(2048):                 api.ErrLetter,
		dashes(2048) + ";":           api.ErrLetter,
		dashes(2049):                 api.ErrLong,
		strings.Repeat("x", 4096):    api.ErrLetter,
		strings.Repeat("x", 4097):    api.ErrLong,
		strings.Repeat(";", 4096):    api.ErrLetter,
		strings.Repeat(";", 4097):    api.ErrLong,
		strings.Repeat(" ", 4096):    api.ErrLetter,
		strings.Repeat("p;", 100000): api.ErrLong,
	} {
		if tr, e := letter.ParseTrace(two, s); len(tr) != 0 || e != want {
			t.Errorf("%d bytes: %d letters, %d, want %d", len(s), len(tr), e, want)
		}
	}
}

func TestParseTraceReadsJustWhatPrintTraceTells(t *testing.T) {
	for _, s := range allTexts("pq -;", 6) {
		tr, e := letter.ParseTrace(two, s)
		if e != api.OK {
			if e != api.ErrLetter || len(tr) != 0 || traceText(s) {
				t.Errorf("%q: %d %d", s, tr, e)
			}
			continue
		}
		if back, e := letter.PrintTrace(two, tr); back != s || e != api.OK {
			t.Errorf("%q is read, %q told", s, back)
		}
	}
}

// traceText tells by a list of all texts of letters, whether a text is a trace's of p and q.
func traceText(s string) bool {
	for s != "" {
		one, rest, more := strings.Cut(s, ";")
		if !slices.Contains([]string{"-", "p", "q", "p q"}, one) || more && rest == "" {
			return false
		}
		s = rest
	}
	return true
}

// P1.6 and P12

func TestLettersThereAndBack(t *testing.T) {
	for n := range 9 {
		for _, names := range [][]string{eight[:n], longNames[:n]} {
			for _, l := range letter.All(n) {
				s, e := letter.Print(names, l)
				if e != api.OK {
					t.Fatal(n, l, e)
				}
				back, e := letter.Parse(names, s)
				if back != l || e != api.OK {
					t.Errorf("%q: %d read as %d, %d", s, l, back, e)
				}
				if again, e := letter.Print(names, back); again != s || e != api.OK {
					t.Errorf("%q told again as %q, %d", s, again, e)
				}
			}
		}
	}
}

func TestOfTheNamesThatHold(t *testing.T) {
	for _, l := range letter.All(8) {
		var on []string
		for i, name := range eight {
			if int(l)>>i&1 == 1 {
				on = append(on, name)
			}
		}
		if got, e := letter.Of(eight, on); got != l || e != api.OK {
			t.Errorf("%q: %d %d", on, got, e)
		}
		slices.Reverse(on)
		if got, e := letter.Of(eight, append(on, on...)); got != l || e != api.OK {
			t.Errorf("%q: %d %d", on, got, e)
		}
	}
}

func TestTracesThereAndBack(t *testing.T) {
	for n := range 9 {
		all := letter.All(n)
		for length := range 40 {
			tr := make([]api.Letter, length)
			for i := range tr {
				tr[i] = all[(i*37+length*11)%len(all)]
			}
			s, e := letter.PrintTrace(eight[:n], tr)
			if e != api.OK {
				t.Fatal(n, length, e)
			}
			if back, e := letter.ParseTrace(eight[:n], s); !slices.Equal(back, tr) || e != api.OK {
				t.Errorf("%q: %d %d", s, back, e)
			}
		}
	}
}

// The chapter's table of examples, line by line.
func TestExamples(t *testing.T) {
	if !letter.Name("p1") || letter.Name("true") || letter.Name("1p") || letter.Name("P") {
		t.Error("Name")
	}
	nine := append(slices.Clone(eight), "x")
	if letter.Check([]string{"p", "q", "p"}) != api.ErrThere || letter.Check([]string{"p", "last"}) != api.ErrName || letter.Check(nine) != api.ErrLong {
		t.Error("Check")
	}
	if l, e := letter.Of(two, []string{"q", "q"}); l != 2 || e != api.OK {
		t.Error("Of q q", l, e)
	}
	if l, e := letter.Of(two, []string{"r"}); l != 0 || e != api.ErrMissing {
		t.Error("Of r", l, e)
	}
	for l, want := range map[api.Letter]string{3: "p q", 0: "-"} {
		if s, e := letter.Print(two, l); s != want || e != api.OK {
			t.Error("Print", l, s, e)
		}
	}
	if s, e := letter.Print(two, 4); s != "" || e != api.ErrArg {
		t.Error("Print 4", s, e)
	}
	for _, s := range []string{"q p", "", "- -"} {
		if l, e := letter.Parse(two, s); l != 0 || e != api.ErrLetter {
			t.Error("Parse", s, l, e)
		}
	}
	if s, e := letter.PrintTrace(two, []api.Letter{1, 0, 3}); s != "p;-;p q" || e != api.OK {
		t.Error("PrintTrace", s, e)
	}
	if s, e := letter.PrintTrace(two, nil); s != "" || e != api.OK {
		t.Error("PrintTrace of none", s, e)
	}
	for _, s := range []string{"p;", ";p"} {
		if tr, e := letter.ParseTrace(two, s); len(tr) != 0 || e != api.ErrLetter {
			t.Error("ParseTrace", s, tr, e)
		}
	}
	if !slices.Equal(letter.All(2), []api.Letter{0, 1, 2, 3}) || !slices.Equal(letter.All(0), []api.Letter{0}) || len(letter.All(9)) != 0 {
		t.Error("All")
	}
}

// Rule 4: an answer is new memory, its spare room too.

func TestAnswersAreNewMemory(t *testing.T) {
	for _, answer := range []func() []api.Letter{
		func() []api.Letter { return letter.All(3) },
		func() []api.Letter { return letter.All(8) },
		func() []api.Letter { tr, _ := letter.ParseTrace(two, "p;-;p q"); return tr },
	} {
		first := answer()
		want := slices.Clone(first)
		for i := range first[:cap(first)] {
			first[:cap(first)][i] = 77
		}
		if second := answer(); !slices.Equal(second, want) {
			t.Errorf("%d, want %d", second, want)
		}
	}
}

func TestNothingHandedInIsChanged(t *testing.T) {
	lists := []string{"p", "q", "spare", "spare"}
	names := lists[:2]
	ons := []string{"q", "p", "spare"}
	letters := []api.Letter{1, 0, 3, 99, 99}
	letter.Check(names)
	letter.Of(names, ons[:2])
	letter.Print(names, 3)
	letter.Parse(names, "p q")
	letter.Trace(2, letters[:3])
	letter.PrintTrace(names, letters[:3])
	tr, _ := letter.ParseTrace(names, "p;q")
	_ = append(tr, 5)
	if !slices.Equal(lists, []string{"p", "q", "spare", "spare"}) {
		t.Error(lists)
	}
	if !slices.Equal(ons, []string{"q", "p", "spare"}) {
		t.Error(ons)
	}
	if !slices.Equal(letters, []api.Letter{1, 0, 3, 99, 99}) {
		t.Error(letters)
	}
}

// Nothing is kept: what a call answers does not hang on what was handed to an earlier one and changed since.
func TestNothingHandedInIsKept(t *testing.T) {
	names := []string{"p", "q"}
	letters := []api.Letter{1, 2}
	s, _ := letter.PrintTrace(names, letters)
	one, _ := letter.Print(names, 1)
	names[0], letters[0] = "r", 3
	if s != "p;q" || one != "p" {
		t.Error(s, one)
	}
	if l, e := letter.Parse(names, "p"); l != 0 || e != api.ErrLetter {
		t.Error(l, e)
	}
	if l, e := letter.Parse(names, "r q"); l != 3 || e != api.OK {
		t.Error(l, e)
	}
}
