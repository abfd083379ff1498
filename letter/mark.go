package letter

import (
	"escribano/api"
	"escribano/check"
)

// What can be done at a place of a letter: the kinds of marks, with api's numbers, and pass, by which a slot stays without a word.
const (
	keep = iota
	turn
	drop
	put
	pass
)

// kind is what is done by a kind of marks.
type kind struct {
	words, slots int // how many words of the letter, and slots of what it becomes, are done with
	corrections  int
	writes       bool                                          // the mark has a word
	can          func(words []string, slots []slot) bool       // it can be done, so that these words come to these slots
	becomes      func(words []string, written string) []string // what is there instead of these words
}

// kinds returns what is done by each kind.
func kinds() []kind {
	always := func([]string, []slot) bool { return true }
	stays := func(words []string, _ string) []string { return words }
	goes := func([]string, string) []string { return nil }
	comes := func(_ []string, written string) []string { return []string{written} }
	return []kind{
		keep: {1, 1, 0, false, func(words []string, slots []slot) bool { return slots[0].takes(words[0]) }, stays},
		turn: {1, 1, 1, true, func(words []string, slots []slot) bool { return !slots[0].takes(words[0]) }, comes},
		drop: {1, 0, 1, false, always, goes},
		put:  {0, 1, 1, true, always, comes},
		pass: {0, 1, 0, false, func(_ []string, slots []slot) bool { return slots[0].open }, goes},
	}
}

// markError returns the error of a mark if some words are left.
func markError(m api.LeMark, left []string) api.Errno {
	if !check.Within(keep, put, m.Kind) {
		return api.ErrRange
	}
	k := kinds()[m.Kind]
	if k.writes && !isWord(m.Word) || !k.writes && m.Word != "" {
		return api.ErrForm
	}
	if k.words > len(left) {
		return api.ErrNone
	}
	if m.Kind == turn && left[0] == m.Word {
		return api.ErrTwice
	}
	return api.OK
}

// marked returns what a letter becomes by marks, or their error.
func marked(words []string, marks []api.LeMark) ([]string, api.Errno) {
	var becomes []string
	for _, m := range marks {
		if e := markError(m, words); e != api.OK {
			return nil, e
		}
		k := kinds()[m.Kind]
		becomes = append(becomes, k.becomes(words[:k.words], m.Word)...)
		words = words[k.words:]
	}
	if len(words) > 0 {
		return nil, api.ErrArg
	}
	if len(becomes) > api.MaxLeWords {
		return nil, api.ErrLong
	}
	return becomes, api.OK
}
