// Package letter is layer 1: propositions by name, letters, traces: see shared/doc/01-letter.md.
package letter

import (
	"strings"

	"rejoinder/api"
)

const (
	nothing        = "-" // the text of the letter in which nothing holds
	betweenNames   = " "
	betweenLetters = ";"

	// A longer text is no letter's: it is refused ahead of being cut.
	maxLetterText = api.MaxProps*(api.MaxName+1) - 1
)

// Name tells whether a text is a name.
func Name(s string) bool {
	if len(s) < 1 || len(s) > api.MaxName || !small(s[0]) {
		return false
	}
	for i := range len(s) {
		if !small(s[i]) && !digit(s[i]) {
			return false
		}
	}
	return !reserved(s)
}

func small(b byte) bool { return 'a' <= b && b <= 'z' }

func digit(b byte) bool { return '0' <= b && b <= '9' }

// reserved tells whether formulas give the word a meaning of its own.
func reserved(s string) bool {
	switch s {
	case "true", "false", "last":
		return true
	}
	return false
}

// Check tells whether names may be.
func Check(names []string) api.Errno {
	_, err := places(names)
	return err
}

// places tells where each name stands, or Check's error.
func places(names []string) (map[string]int, api.Errno) {
	if len(names) > api.MaxProps {
		return nil, api.ErrLong
	}
	met := make(map[string]int, len(names))
	for i, name := range names {
		if !Name(name) {
			return nil, api.ErrName
		}
		if _, there := met[name]; there {
			return nil, api.ErrThere
		}
		met[name] = i
	}
	return met, api.OK
}

// bit is the letter in which one proposition alone holds.
func bit(i int) api.Letter { return api.Letter(1) << i }

// Of makes a letter of the names that hold.
func Of(names, on []string) (api.Letter, api.Errno) {
	place, err := places(names)
	if err != api.OK {
		return 0, err
	}
	var l api.Letter
	for _, name := range on {
		i, there := place[name]
		if !there {
			return 0, api.ErrMissing
		}
		l |= bit(i)
	}
	return l, api.OK
}

// count tells whether there may be so many propositions.
func count(n int) bool { return 0 <= n && n <= api.MaxProps }

// Fits tells whether a letter is of so many propositions.
func Fits(n int, l api.Letter) bool { return count(n) && l>>n == 0 }

// All tells the letters of so many propositions.
func All(n int) []api.Letter {
	if !count(n) {
		return nil
	}
	all := make([]api.Letter, 1<<n)
	for i := range all {
		all[i] = api.Letter(i)
	}
	return all
}

// Trace tells whether a trace may be of so many propositions.
func Trace(n int, t []api.Letter) api.Errno {
	if !count(n) {
		return api.ErrArg
	}
	if len(t) > api.MaxTrace {
		return api.ErrLong
	}
	for _, l := range t {
		if !Fits(n, l) {
			return api.ErrArg
		}
	}
	return api.OK
}

// Print tells a letter's text.
func Print(names []string, l api.Letter) (string, api.Errno) {
	if err := Check(names); err != api.OK {
		return "", err
	}
	if !Fits(len(names), l) {
		return "", api.ErrArg
	}
	return text(names, l), api.OK
}

// text is Print of names and a letter that were looked at already.
func text(names []string, l api.Letter) string {
	on := make([]string, 0, len(names))
	for i, name := range names {
		if l&bit(i) != 0 {
			on = append(on, name)
		}
	}
	if len(on) == 0 {
		return nothing
	}
	return strings.Join(on, betweenNames)
}

// Parse reads a letter.
func Parse(names []string, s string) (api.Letter, api.Errno) {
	place, err := places(names)
	if err != api.OK {
		return 0, err
	}
	l, ok := read(place, s)
	if !ok {
		return 0, api.ErrLetter
	}
	return l, api.OK
}

// read is Parse by the places of names that were looked at already.
func read(place map[string]int, s string) (api.Letter, bool) {
	if s == nothing {
		return 0, true
	}
	if len(s) > maxLetterText {
		return 0, false
	}
	var l api.Letter
	least := 0 // the names of a text stand in their order, each once
	for _, name := range strings.Split(s, betweenNames) {
		i, there := place[name]
		if !there || i < least {
			return 0, false
		}
		l |= bit(i)
		least = i + 1
	}
	return l, true
}

// PrintTrace tells a trace's text.
func PrintTrace(names []string, t []api.Letter) (string, api.Errno) {
	if err := Check(names); err != api.OK {
		return "", err
	}
	if err := Trace(len(names), t); err != api.OK {
		return "", err
	}
	texts := make([]string, len(t))
	for i, l := range t {
		texts[i] = text(names, l)
	}
	s := strings.Join(texts, betweenLetters)
	if len(s) > api.MaxText {
		return "", api.ErrLong
	}
	return s, api.OK
}

// ParseTrace reads a trace.
func ParseTrace(names []string, s string) ([]api.Letter, api.Errno) {
	place, err := places(names)
	if err != api.OK {
		return nil, err
	}
	if len(s) > api.MaxText {
		return nil, api.ErrLong
	}
	if s == "" {
		return nil, api.OK
	}
	texts := strings.Split(s, betweenLetters)
	if len(texts) > api.MaxTrace {
		return nil, api.ErrLetter
	}
	t := make([]api.Letter, len(texts))
	for i, one := range texts {
		l, ok := read(place, one)
		if !ok {
			return nil, api.ErrLetter
		}
		t[i] = l
	}
	return t, api.OK
}
