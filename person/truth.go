package person

import (
	"iter"

	"escribano/api"
	"escribano/sets"
)

// maxMentions is how many mentions there are at most: Who adds one to a town.
const maxMentions = api.MaxPeMentions + 1

// persons says for each mention of which person it is; the places behind the last mention are 0.
type persons [maxMentions]int

// town is a town that is looked at.
type town struct {
	api.PeTown
	alike map[int]bool      // whether spellings, as bits, sound alike, if this was asked
	born  map[persons]years // when persons can be born, if this was asked: Wrong asks again for each set of ties
}

// look returns a town of which nothing was asked.
func look(t api.PeTown) town { return town{t, map[int]bool{}, map[persons]years{}} }

// list returns the persons of so many mentions in new memory.
func (p persons) list(mentions int) []int {
	l := make([]int, mentions)
	copy(l, p[:])
	return l
}

// many returns how many persons so many mentions are of.
func (p persons) many(mentions int) int {
	n := 0
	for _, person := range p[:mentions] {
		n = max(n, person+1)
	}
	return n
}

// tie returns what is so of two mentions, as a tie.
func (p persons) tie(a, b int) api.PeTie { return api.PeTie{A: a, B: b, Same: p[a] == p[b]} }

// truths yields the truths in their order; the ties of a set are left out.
func (k town) truths(out int) iter.Seq[persons] {
	return func(yield func(persons) bool) {
		var place func(at, many int, p persons) bool
		place = func(at, many int, p persons) bool {
			if at == len(k.Mentions) {
				return !k.isTruth(p, out) || yield(p)
			}
		persons:
			for person := range many + 1 {
				for other := range at {
					if p[other] == person && k.why(other, at) != byNothing {
						continue persons
					}
				}
				p[at] = person
				if !place(at+1, max(many, person+1), p) {
					return false
				}
			}
			return true
		}
		place(0, 0, persons{})
	}
}

// isTruth reports whether persons no two of whose mentions are kept apart are a truth; the ties of a set are left out.
func (k town) isTruth(p persons, out int) bool {
	return k.keepsTies(p, out) && k.soundsAlike(p) && k.hasOneParent(p) && k.years(p).areSome()
}

// keepsTies reports whether the ties are so, but for those of a set.
func (k town) keepsTies(p persons, out int) bool {
	for at, tie := range k.Ties {
		if out&sets.Of(at) == 0 && tie != p.tie(tie.A, tie.B) {
			return false
		}
	}
	return true
}

// soundsAlike reports whether all mentions of each person sound alike: of three, each two can without the third.
func (k town) soundsAlike(p persons) bool {
	var spellings [maxMentions]int
	for at, m := range k.Mentions {
		spellings[p[at]] |= sets.Of(m.Spelling)
	}
	for _, set := range spellings[:p.many(len(k.Mentions))] {
		if !k.soundAlike(set) {
			return false
		}
	}
	return true
}

// hasOneParent reports whether all parents of each person are of one person.
func (k town) hasOneParent(p persons) bool {
	for a, one := range k.Mentions {
		for b, other := range k.Mentions[:a] {
			if p[a] == p[b] && one.Parent != api.PeNone && other.Parent != api.PeNone && p[one.Parent] != p[other.Parent] {
				return false
			}
		}
	}
	return true
}

// possible reports whether there is a truth; the ties of a set are left out.
func (k town) possible(out int) bool {
	for range k.truths(out) {
		return true
	}
	return false
}
