package money

import (
	"slices"

	"escribano/api"
	"escribano/sets"
)

// The kinds of words, with api's numbers.
const (
	is = iota
	not
	same
	other
)

// saying is what a kind of word says: whether of two sums, and whether it is so if sums are for these claimants.
type saying struct {
	ofSums bool
	holds  func(c claimants, sum, of int) bool
}

// sayings returns what each kind of word says.
func sayings() []saying {
	return []saying{
		is:    {false, func(c claimants, sum, claimant int) bool { return c[sum] == claimant }},
		not:   {false, func(c claimants, sum, claimant int) bool { return c[sum] != claimant }},
		same:  {true, func(c claimants, sum, of int) bool { return c[sum] == c[of] }},
		other: {true, func(c claimants, sum, of int) bool { return c[sum] != c[of] }},
	}
}

// word is a word that is looked at, with what its kind says.
type word struct {
	api.MoWord
	saying
}

// isSo reports whether what the word says is so.
func (w word) isSo(c claimants) bool { return w.holds(c, w.Sum, w.Of) }

// last returns the last sum of which the word tells.
func (w word) last() int {
	if w.ofSums {
		return max(w.Sum, w.Of)
	}
	return w.Sum
}

// counts reports whether a word counts.
func (k list) counts(at int) bool {
	return k.Words[at].Came && !slices.ContainsFunc(k.Words, func(w api.MoWord) bool { return w.Came && w.Back == at })
}

// decides reports whether there would be a truth, and no sum would be held, if the words of a set, none of which has come, had come.
func (k list) decides(words int) bool {
	m := k.MoList
	m.Words = slices.Clone(m.Words)
	for _, at := range sets.Members(words) {
		if m.Words[at].Came {
			return false
		}
		m.Words[at].Came = true
	}
	return look(m).isDecided()
}
