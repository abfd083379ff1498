package reply

import (
	"iter"
	"slices"

	"escribano/api"
	"escribano/sea"
	"escribano/sets"
	"escribano/told"
)

// book is a book that is looked at.
type book struct {
	api.ReBook
	sea   sea.Harbour
	fit   int             // the links of answers and the letters that they fit
	could int             // the links that there are in some truth of the harbour
	ways  map[int][]match // the ways in which answers can belong to letters, by the links that there are in a truth of the harbour
	fair  []match         // those of fair truths, in their order
}

// look returns a book without errors, with what is so in its truths.
func look(b api.ReBook) book {
	k := book{ReBook: b, sea: sea.Look(b.Harbour), ways: map[int][]match{}}
	k.fit = k.linked(k.fits)
	var all []match
	for f, by := range k.sea.Truths(0) {
		links := k.links(f, by)
		if _, known := k.ways[links]; known {
			continue
		}
		k.could |= links
		k.ways[links] = slices.Collect(k.matches(links))
		all = append(all, k.ways[links]...)
	}
	k.fair = told.Fewest(slices.Values(all), k.strays)
	slices.SortFunc(k.fair, compare)
	k.fair = slices.Compact(k.fair)
	return k
}

// fits reports whether an answer fits a letter.
func (k book) fits(answer, letter int) bool {
	a := k.Answers[answer]
	return a.Port == k.Harbour.Letters[letter].Port && a.Words&^k.Words[letter] == 0
}

// isInTime reports whether a letter that comes so comes early enough for an answer.
func (k book) isInTime(answer int, a sea.Arrival) bool {
	return a.IsUntil(k.Answers[answer].Day - k.Back)
}

// links returns the links that there are if ships fare so.
func (k book) links(f sea.Fares, by sea.Routes) int {
	return k.linked(func(answer, letter int) bool {
		return k.fit&linkOf(answer, letter) != 0 &&
			slices.ContainsFunc(k.sea.Arrivals(f, by, letter), func(a sea.Arrival) bool { return k.isInTime(answer, a) })
	})
}

// arrivals yields when a letter comes in fair truths.
func (k book) arrivals(letter int) iter.Seq[sea.Arrival] {
	return func(yield func(sea.Arrival) bool) {
		for f, by := range k.sea.Truths(0) {
			for _, m := range k.ways[k.links(f, by)] {
				if !slices.Contains(k.fair, m) {
					continue
				}
				answer, isAnswered := m.answerOf(letter)
				for _, a := range k.sea.Arrivals(f, by, letter) {
					if isAnswered && !k.isInTime(answer, a) {
						continue
					}
					if !yield(a) {
						return
					}
				}
			}
		}
	}
}

// question is what is asked of fair truths: whether something is so of a thing, for each of so many things.
type question struct {
	many int
	isSo func(m match, at int) bool
}

// belongs asks to which letters an answer belongs.
func (k book) belongs(answer int) question {
	return question{len(k.Harbour.Letters), func(m match, letter int) bool { return m[answer] == letter }}
}

// isStray asks which answers are strays.
func (k book) isStray() question {
	return question{len(k.Answers), func(m match, answer int) bool { return m[answer] == api.ReStray }}
}

// waits asks which letters have no answer.
func (k book) waits() question {
	return question{len(k.Harbour.Letters), func(m match, letter int) bool {
		_, isAnswered := m.answerOf(letter)
		return !isAnswered
	}}
}

// hows returns of each thing whether it is so in all fair truths, in some or in none; there always is a fair truth.
func (k book) hows(q question) []int {
	hows := make([]int, q.many)
	for at := range hows {
		hows[at], _ = told.How(slices.Values(k.fair), func(m match) bool { return q.isSo(m, at) })
	}
	return hows
}

// tell returns the things of which it is so in all fair truths, and those of which it is in some.
func (k book) tell(q question) (sure, may []int) {
	for at, how := range k.hows(q) {
		if how == api.Must {
			sure = append(sure, at)
		}
		if how != api.Never {
			may = append(may, at)
		}
	}
	return sure, may
}

// isSure reports whether an answer belongs to one letter in all fair truths.
func (k book) isSure(answer int) bool {
	return slices.Contains(k.hows(k.belongs(answer)), api.Must)
}

// naming returns the book if an answer named one word more.
func (k book) naming(answer, word int) book {
	b := k.ReBook
	b.Answers = slices.Clone(b.Answers)
	b.Answers[answer].Words |= sets.Of(word)
	return look(b)
}
