package lexis_test

import (
	"fmt"
	"math"
	"math/rand"
	"regexp"
	"slices"
	"strings"
	"testing"
	"unsafe"

	"rejoinder/api"
	"rejoinder/lexis"
)

var (
	everySign = []string{"(", ")", "[", "]", "{", "}", "<", ">", "!", "?", "&", "|", "+", ";", "*", "->", "<->"}
	everyKey  = []string{"X", "N", "F", "G", "U", "R", "true", "false", "last"}
	someNames = []string{"p", "q", "z", "x", "u", "a0", "p1", "p1q2", "z9", "true2", "truer", "xtrue", "tru", "lastly", "fals", "abcdefghijklmnopqrst", "a1234567890123456789"}
	// Letters and digits that are neither a key nor a name.
	noWords = []string{"P", "A", "Z", "Y", "XX", "XN", "X1", "Xp", "pX", "trueX", "Xtrue", "True", "TRUE", "Last", "FG", "UR", "1p", "1", "0", "9", "10", "007", "pQ", "p1Q", "9X", "abcdefghijklmnopqrstu", "a12345678901234567890", strings.Repeat("p", 21), strings.Repeat("X", 20)}
)

// The tests work out what is asked for by the expressions of the library: the first word of a text, and which sort of word a text is.
var (
	firstWord = regexp.MustCompile(`^(?:<->|->|[()\[\]{}<>!?&|+;*]|[a-zA-Z0-9]+)`)
	wholeSign = regexp.MustCompile(`^(?:<->|->|[()\[\]{}<>!?&|+;*])$`)
	wholeKey  = regexp.MustCompile(`^(?:[XNFGUR]|true|false|last)$`)
	wholeName = regexp.MustCompile(`^[a-z][a-z0-9]{0,19}$`)
)

func wantSort(s string) (api.Sort, bool) {
	switch {
	case strings.HasSuffix(s, "\n"):
		return 0, false
	case wholeSign.MatchString(s):
		return api.Sign, true
	case wholeKey.MatchString(s):
		return api.Key, true
	case wholeName.MatchString(s):
		return api.Call, true
	}
	return 0, false
}

func wantWords(s string) ([]api.Word, api.Fault) {
	if len(s) > 4096 {
		return nil, api.Fault{Err: api.ErrLong, At: -1}
	}
	var l []api.Word
	for rest := strings.TrimLeft(s, " "); rest != ""; rest = strings.TrimLeft(rest, " ") {
		at := len(s) - len(rest)
		text := firstWord.FindString(rest)
		sort, is := wantSort(text)
		if !is {
			return nil, api.Fault{Err: api.ErrWord, At: at}
		}
		l = append(l, api.Word{Sort: sort, Text: text, At: at})
		rest = rest[len(text):]
	}
	return l, api.Fault{}
}

// ask asks Words, and holds its answer against what must be.
func ask(t *testing.T, s string) []api.Word {
	t.Helper()
	l, f := lexis.Words(s)
	want, fault := wantWords(s)
	if f != fault || !slices.Equal(l, want) {
		t.Fatalf("Words(%q) = %v %v, not %v %v", s, l, f, want, fault)
	}
	return l
}

// noWord asks that no word begins at a place of a text.
func noWord(t *testing.T, s string, at int) {
	t.Helper()
	if l, f := lexis.Words(s); len(l) != 0 || f != (api.Fault{Err: api.ErrWord, At: at}) {
		t.Errorf("Words(%q) = %v %v, not ErrWord at %d", s, l, f, at)
	}
}

// reads asks that a text has words of these texts at these places.
func reads(t *testing.T, s, texts string, at ...int) {
	t.Helper()
	l, f := lexis.Words(s)
	var got []string
	var places []int
	for _, w := range l {
		got = append(got, w.Text)
		places = append(places, w.At)
	}
	if f != (api.Fault{}) || !slices.Equal(got, strings.Fields(texts)) || !slices.Equal(places, at) {
		t.Errorf("Words(%q) = %q at %v, %v", s, got, places, f)
	}
}

// P4.1

func TestWordsOfTheExamples(t *testing.T) {
	reads(t, "X(p1&!q)", "X ( p1 & ! q )", 0, 1, 2, 4, 5, 6, 7)
	reads(t, "p<->q", "p <-> q", 0, 1, 4)
	reads(t, " ", "")
	reads(t, "true2", "true2", 0)
	noWord(t, "p<-q", 2)
	noWord(t, "P", 0)
	noWord(t, "1p", 0)
	noWord(t, "X1", 0)
	noWord(t, "p #", 2)
	if l, _ := lexis.Words("true2"); l[0].Sort != api.Call {
		t.Error("true2 is a name:", l)
	}
}

func TestWordsOfNothingAndOfBlanks(t *testing.T) {
	for _, n := range []int{0, 1, 2, 3, 100, 4095, 4096} {
		reads(t, strings.Repeat(" ", n), "")
	}
}

func TestWordsKeepTheirSorts(t *testing.T) {
	for sort, texts := range [][]string{everySign, everyKey, someNames} {
		for _, s := range texts {
			for _, around := range []string{"", " ", "   "} {
				want := []api.Word{{Sort: api.Sort(sort), Text: s, At: len(around)}}
				if l, f := lexis.Words(around + s + around); f != (api.Fault{}) || !slices.Equal(l, want) {
					t.Errorf("%q: %v %v", around+s+around, l, f)
				}
			}
		}
	}
}

func TestWordsByTwos(t *testing.T) {
	all := slices.Concat(everySign, everyKey, someNames, noWords, []string{"", "-", "--", "<-", "#", "\x00", "\xff", "ä"})
	for _, a := range all {
		for _, b := range all {
			for _, between := range []string{"", " ", "  ", "-", "(", "->"} {
				ask(t, a+between+b)
			}
		}
	}
}

func TestLongestSign(t *testing.T) {
	reads(t, "<->", "<->", 0)
	reads(t, "<->>", "<-> >", 0, 3)
	reads(t, "<<->", "< <->", 0, 1)
	reads(t, "<->->", "<-> ->", 0, 3)
	reads(t, "<-><->", "<-> <->", 0, 3)
	reads(t, "->>", "-> >", 0, 2)
	reads(t, ">->", "> ->", 0, 1)
	reads(t, "< ->", "< ->", 0, 2)
	reads(t, "<{p}*>q->[?q]last", "< { p } * > q -> [ ? q ] last", 0, 1, 2, 3, 4, 5, 6, 7, 9, 10, 11, 12, 13)
	reads(t, "(([[{{", "( ( [ [ { {", 0, 1, 2, 3, 4, 5)
	reads(t, "!!!", "! ! !", 0, 1, 2)
	reads(t, "&&||", "& & | |", 0, 1, 2, 3)
	noWord(t, "<-", 1)
	noWord(t, "<-<->", 1)
	noWord(t, "<- >", 1)
	noWord(t, "< - >", 2)
	noWord(t, "<-->", 1)
	noWord(t, "-->", 0)
	noWord(t, "->-", 2)
	noWord(t, "- >", 0)
}

func TestDashAloneIsNoSign(t *testing.T) {
	noWord(t, "-", 0)
	noWord(t, "  -", 2)
	noWord(t, "p-q", 1)
	noWord(t, "p -", 2)
	noWord(t, "p->q-p", 4)
	noWord(t, "-p", 0)
	noWord(t, "(-)", 1)
}

func TestLettersAndDigitsThatAreNoWord(t *testing.T) {
	for _, s := range noWords {
		noWord(t, s, 0)
		noWord(t, "p "+s, 2)
		noWord(t, "X("+s+")", 2)
		noWord(t, s+"#", 0)
		noWord(t, s+"-", 0)
	}
	for n := 1; n <= 4096; n += 1 + n/3 {
		l := ask(t, strings.Repeat("a", n))
		if (n <= 20) != (len(l) == 1) {
			t.Error(n, l)
		}
	}
}

func TestLettersAndDigitsGoOnAsFarAsTheyCan(t *testing.T) {
	reads(t, "truefalse", "truefalse", 0)
	reads(t, "true false", "true false", 0, 5)
	reads(t, "true(false", "true ( false", 0, 4, 5)
	reads(t, "X X", "X X", 0, 2)
	reads(t, "p1 p2", "p1 p2", 0, 3)
	noWord(t, "p1 2", 3)
}

func TestEveryByte(t *testing.T) {
	for b := range 256 {
		c := string([]byte{byte(b)})
		for _, s := range []string{c, c + c, "p" + c, c + "p", "p" + c + "q", "p " + c + " q", "X" + c, "<" + c + ">", "(" + c, "1" + c, " " + c, "->" + c, "-" + c, "<-" + c} {
			ask(t, s)
		}
		if known := strings.Contains(" ()[]{}<>!?&|+;*XNFGURabcdefghijklmnopqrstuvwxyz", c); !known {
			noWord(t, c, 0)
			noWord(t, "p "+c, 2)
		}
	}
}

func TestBytesAbove127AndOtherBlanks(t *testing.T) {
	for _, c := range []string{"ä", "é", "ß", "ｐ", "Ｘ", "١", "→", "↔", "\u00a0", "\u3000", "\ufeff", "\u2028", "😀", "\xff", "\xc3", "\x80", "\xed\xa0\x80", "\ufffd", "\t", "\n", "\r", "\v", "\f", "\x00", "\x7f"} {
		noWord(t, c, 0)
		noWord(t, "p"+c, 1)
		noWord(t, "p"+c+"q", 1)
		noWord(t, " X "+c, 3)
		noWord(t, "p1<->"+c, 5)
		noWord(t, "P"+c, 0)
	}
}

func TestLongTexts(t *testing.T) {
	tooLong := api.Fault{Err: api.ErrLong, At: -1}
	for _, piece := range []string{"p", " ", "(", "#", "-", "X", "\xff", "ä", "p ", "p&", "<->", "X X"} {
		s := strings.Repeat(piece, 4097)
		if l, f := lexis.Words(s[:4096]); f == tooLong {
			t.Errorf("%q, 4096 bytes: %v %v", piece, l, f)
		}
		for _, n := range []int{4097, 4098, len(s)} {
			if n > len(s) {
				continue
			}
			if l, f := lexis.Words(s[:n]); f != tooLong || len(l) != 0 {
				t.Errorf("%q, %d bytes: %v %v", piece, n, l, f)
			}
		}
		ask(t, s[:4096])
		ask(t, s[:4095])
	}
	if _, f := lexis.Words(strings.Repeat(" ", 1<<22)); f != tooLong {
		t.Error(f)
	}
	if l := ask(t, strings.Repeat("(", 4096)); len(l) != 4096 || l[4095].At != 4095 {
		t.Error(len(l))
	}
	if l := ask(t, strings.Repeat(" ", 4095)+"p"); len(l) != 1 || l[0].At != 4095 {
		t.Error(l)
	}
	noWord(t, strings.Repeat("p ", 2047)+"p-", 4095)
}

func TestOrderOfFaults(t *testing.T) {
	noWord(t, "p # P", 2)
	noWord(t, "p P #", 2)
	noWord(t, "- #", 0)
	noWord(t, "   1p   X1", 3)
	noWord(t, "p->q X1 - ä", 5)
	if l, f := lexis.Words("#" + strings.Repeat(" ", 4096)); len(l) != 0 || f != (api.Fault{Err: api.ErrLong, At: -1}) {
		t.Error(l, f)
	}
}

// texts lists all texts of at most n pieces.
func texts(pieces []string, n int) []string {
	all, last := []string{""}, []string{""}
	for range n {
		var longer []string
		for _, s := range last {
			for _, piece := range pieces {
				longer = append(longer, s+piece)
			}
		}
		all, last = append(all, longer...), longer
	}
	return all
}

func TestEveryShortText(t *testing.T) {
	for _, s := range texts([]string{"<", "-", ">", " ", "p", "X", "1", "("}, 5) {
		ask(t, s)
	}
}

// P4.2

func TestSort(t *testing.T) {
	for sort, texts := range [][]string{everySign, everyKey, someNames} {
		for _, s := range texts {
			if got, is := lexis.Sort(s); got != api.Sort(sort) || !is {
				t.Errorf("Sort(%q) = %d %v, not %d", s, got, is, sort)
			}
		}
	}
	for _, s := range slices.Concat(noWords, []string{"", " ", "-", "<-", "--", "-->", "((", "()", "<->>", "<>", "->->", "p ", " p", "p q", "X ", " X", "X X", "XX", "( ", " (", " ->", "-> <->", "( )", "true ", "true false", "p#", "#", "\x00", "\xff", "ä", "pä", "p\n", "->\n", "X\n", "u\x00", strings.Repeat("p", 4097), strings.Repeat("(", 4097)}) {
		if got, is := lexis.Sort(s); got != 0 || is {
			t.Errorf("Sort(%q) = %d %v, but it is no word", s, got, is)
		}
	}
}

func TestSortOfTheExamples(t *testing.T) {
	for s, want := range map[string]api.Sort{"->": api.Sign, "U": api.Key, "u": api.Call} {
		if got, is := lexis.Sort(s); got != want || !is {
			t.Error(s, got, is)
		}
	}
	for _, s := range []string{"trueX", ""} {
		if got, is := lexis.Sort(s); got != 0 || is {
			t.Error(s, got, is)
		}
	}
}

func TestSortOfEveryShortText(t *testing.T) {
	var bytes []string
	for b := range 256 {
		bytes = append(bytes, string([]byte{byte(b)}))
	}
	for _, s := range append(texts(bytes, 2), texts([]string{"<", "-", ">", "X", "u", "0", " ", "\n"}, 5)...) {
		got, is := lexis.Sort(s)
		if want, must := wantSort(s); got != want || is != must {
			t.Fatalf("Sort(%q) = %d %v, not %d %v", s, got, is, want, must)
		}
	}
}

func TestJoin(t *testing.T) {
	word := func(s string) api.Word { return api.Word{Text: s} }
	for _, c := range []struct {
		l    []api.Word
		want string
	}{
		{nil, ""},
		{[]api.Word{}, ""},
		{[]api.Word{word("")}, ""},
		{[]api.Word{word("p")}, "p"},
		{[]api.Word{word("p"), word("q")}, "p q"},
		{[]api.Word{word(""), word("")}, " "},
		{[]api.Word{word(""), word("p"), word("")}, " p "},
		{[]api.Word{word(" "), word("#"), word("\xff"), word("ä\n")}, "  # \xff ä\n"},
		{[]api.Word{{Sort: 99, Text: "p", At: -7}, {Sort: api.Key, Text: "p", At: math.MaxInt}, {Sort: api.Call, Text: "->", At: math.MinInt}}, "p p ->"},
	} {
		if got := lexis.Join(c.l); got != c.want {
			t.Errorf("Join(%v) = %q, not %q", c.l, got, c.want)
		}
	}
	l, _ := lexis.Words("X(p1&!q)")
	if got := lexis.Join(l); got != "X ( p1 & ! q )" {
		t.Error(got)
	}
}

func TestJoinOfMany(t *testing.T) {
	l := slices.Repeat([]api.Word{{Text: "<->"}}, 50000)
	if got := lexis.Join(l); got != strings.Repeat("<-> ", 49999)+"<->" {
		t.Error(len(got))
	}
}

func TestPlaces(t *testing.T) {
	for _, c := range [][]int{nil, {}, {0}, {3, 1, 1, 2}, {-1, math.MinInt, math.MaxInt, 5000}} {
		var l []api.Word
		for i, at := range c {
			l = append(l, api.Word{Sort: api.Sort(i * 70), Text: fmt.Sprint("no place: ", i), At: at})
		}
		if got := lexis.Places(l); !slices.Equal(got, c) {
			t.Error(got, c)
		}
	}
}

// P4.3

// grown lists texts out of words, of what is none, and of blanks, by chance.
func grown(n int) []string {
	chance := rand.New(rand.NewSource(4))
	words := slices.Concat(everySign, everyKey, someNames)
	others := slices.Concat(noWords, []string{"-", "#", "ä", "\xff", "\t"})
	var all []string
	for range n {
		var s strings.Builder
		for range chance.Intn(40) {
			if chance.Intn(200) == 0 {
				s.WriteString(others[chance.Intn(len(others))])
			} else {
				s.WriteString(words[chance.Intn(len(words))])
			}
			s.WriteString(strings.Repeat(" ", max(1, chance.Intn(8)-4)))
			if chance.Intn(4) == 0 {
				s.WriteString(everySign[chance.Intn(len(everySign))])
			}
		}
		all = append(all, s.String())
	}
	return all
}

func TestWordsStandAtTheirPlaces(t *testing.T) {
	read := 0
	for _, s := range grown(3000) {
		l := ask(t, s)
		if len(l) > 0 {
			read++
		}
		left := []byte(s)
		behind := 0
		for _, w := range l {
			if sort, is := lexis.Sort(w.Text); sort != w.Sort || !is {
				t.Fatal(s, w, sort, is)
			}
			if w.At < behind || s[w.At:w.At+len(w.Text)] != w.Text {
				t.Fatal(s, w)
			}
			behind = w.At + len(w.Text)
			copy(left[w.At:], strings.Repeat(" ", len(w.Text)))
		}
		if rest := strings.Trim(string(left), " "); len(l) > 0 && rest != "" {
			t.Fatal(s, "what is left:", rest)
		}
	}
	if read < 1000 {
		t.Error("just", read, "texts were read")
	}
}

// bare lists words without their places.
func bare(l []api.Word) []api.Word {
	l = slices.Clone(l)
	for i := range l {
		l[i].At = 0
	}
	return l
}

func TestWordsOfJoin(t *testing.T) {
	for _, s := range append(grown(2000), "", " ", "(((", "<-><->", strings.Repeat("p1 ", 1365), strings.Repeat("(", 2048), strings.Repeat("->", 1365)) {
		l, f := lexis.Words(s)
		if f != (api.Fault{}) {
			continue
		}
		joined := lexis.Join(l)
		again, f := lexis.Words(joined)
		if f != (api.Fault{}) || !slices.Equal(bare(again), bare(l)) {
			t.Fatal(s, again, f)
		}
		if lexis.Join(again) != joined {
			t.Fatal(s, again)
		}
	}
	l, _ := lexis.Words(strings.Repeat("(", 2049))
	if again, f := lexis.Words(lexis.Join(l)); len(again) != 0 || f != (api.Fault{Err: api.ErrLong, At: -1}) {
		t.Error(len(again), f)
	}
}

// P1, and the rules that hold everywhere

func TestCallsAreCalm(t *testing.T) {
	chance := rand.New(rand.NewSource(40))
	const often = "<->-> ()[]{}!?&|+;*XNFGURpqtruefalselast01P#\xff\xc3\xa4"
	for range 20000 {
		s := make([]byte, chance.Intn(12))
		for i := range s {
			s[i] = often[chance.Intn(len(often))]
			if chance.Intn(20) == 0 {
				s[i] = byte(chance.Intn(256))
			}
		}
		l := ask(t, string(s))
		lexis.Join(l)
		lexis.Places(l)
		got, is := lexis.Sort(string(s))
		if want, must := wantSort(string(s)); got != want || is != must {
			t.Fatalf("Sort(%q) = %d %v", s, got, is)
		}
	}
}

// roomy is a list with spare room that has words of another kind in it.
func roomy(l []api.Word) []api.Word {
	room := append(slices.Clone(l), slices.Repeat([]api.Word{{Sort: api.Key, Text: "spare", At: 99}}, 20)...)
	return room[:len(l):len(room)]
}

func TestNothingHandedInIsChanged(t *testing.T) {
	for _, s := range []string{"", "p", "X(p1&!q)", "p <-> q"} {
		made, _ := lexis.Words(s)
		l := roomy(made)
		before := slices.Clone(l[:cap(l)])
		text, places := lexis.Join(l), lexis.Places(l)
		_ = append(places, 77)
		if !slices.Equal(l[:cap(l)], before) || strings.Contains(text, "spare") || slices.Contains(places[:cap(places)], 99) {
			t.Error(l[:cap(l)], text, places)
		}
		for i := range l {
			l[i] = api.Word{Text: "changed", At: -5}
		}
		if strings.Contains(text, "changed") || slices.Contains(places, -5) {
			t.Error("what was handed in was kept:", text, places)
		}
	}
}

func TestAnswersAreNewMemory(t *testing.T) {
	const s = "X(p1&!q) <-> true"
	first, _ := lexis.Words(s)
	want := slices.Clone(first)
	for i := range first[:cap(first)] {
		first[:cap(first)][i] = api.Word{Sort: 77, Text: "77", At: 77}
	}
	if second, f := lexis.Words(s); !slices.Equal(second, want) || f != (api.Fault{}) {
		t.Error(second, f)
	}
	places := lexis.Places(want)
	for i := range places[:cap(places)] {
		places[:cap(places)][i] = 77
	}
	if again := lexis.Places(want); !slices.Equal(again, []int{0, 1, 2, 4, 5, 6, 7, 9, 13}) {
		t.Error(again)
	}
}

// within tells whether a text lies in another one's bytes.
func within(s, t string) bool {
	if s == "" || t == "" {
		return false
	}
	at, begin := uintptr(unsafe.Pointer(unsafe.StringData(s))), uintptr(unsafe.Pointer(unsafe.StringData(t)))
	return begin <= at && at < begin+uintptr(len(t))
}

func TestTextsAreNotPiecesOfWhatWasHandedIn(t *testing.T) {
	s := strings.Clone("last->(p1&!q)")
	l, _ := lexis.Words(s)
	for _, w := range l {
		if within(w.Text, s) {
			t.Error(w)
		}
		if text := lexis.Join([]api.Word{w}); text != w.Text || within(text, w.Text) {
			t.Error(w, text)
		}
	}
}

func TestAnswersHangOnArgumentsAlone(t *testing.T) {
	for range 3 {
		reads(t, "p U q", "p U q", 0, 2, 4)
		noWord(t, "p U #", 4)
		if l, f := lexis.Words(strings.Repeat("p", 5000)); len(l) != 0 || f != (api.Fault{Err: api.ErrLong, At: -1}) {
			t.Error(l, f)
		}
	}
}
