package letter

import (
	"iter"

	"escribano/api"
)

// best returns the first of some things that none of them comes before, and how many things there are.
func best[T any](things iter.Seq[T], before func(a, b T) bool) (T, int) {
	var first T
	many := 0
	for thing := range things {
		if many == 0 || before(thing, first) {
			first = thing
		}
		many++
	}
	return first, many
}

// choice is one of several things, by its number, and how many corrections are needed with it.
type choice struct{ which, many int }

// fewer reports whether fewer corrections are needed than with another choice.
func (c choice) fewer(o choice) bool { return c.many < o.many }

// place is a place in a letter and in the slots in which its words are to stand: how many of both are done with.
type place struct{ word, slot int }

// mending is how the words of a letter come to stand in slots.
type mending struct {
	words []string
	slots []slot
	kinds []kind
	found map[place]choice // the first kind of mark with the fewest corrections from there on, and how many these are
}

// mend finds how a letter's words come to stand in slots with the fewest corrections.
func mend(words []string, slots []slot) mending {
	m := mending{words, slots, kinds(), map[place]choice{}}
	for word := len(words); word >= 0; word-- {
		for slot := len(slots); slot >= 0; slot-- {
			p := place{word, slot}
			m.found[p], _ = best(m.choices(p), choice.fewer)
		}
	}
	return m
}

// next returns the place behind p if there is done what a kind does.
func (p place) next(k kind) place { return place{p.word + k.words, p.slot + k.slots} }

// choices yields what can be done at a place, if all places behind it are found.
func (m mending) choices(p place) iter.Seq[choice] {
	return func(yield func(choice) bool) {
		for which, k := range m.kinds {
			next := p.next(k)
			behind, is := m.found[next]
			if !is || !k.can(m.words[p.word:next.word], m.slots[p.slot:next.slot]) {
				continue
			}
			if !yield(choice{which, k.corrections + behind.many}) {
				return
			}
		}
	}
}

// fewest returns how many corrections are needed.
func (m mending) fewest() int { return m.found[place{}].many }

// marks returns the first marks with the fewest corrections.
func (m mending) marks() []api.LeMark {
	var marks []api.LeMark
	end := place{len(m.words), len(m.slots)}
	for p := (place{}); p != end; {
		which := m.found[p].which
		mark := api.LeMark{Kind: which}
		if m.kinds[which].writes {
			mark.Word = m.slots[p.slot].word
		}
		marks = append(marks, mark)
		p = p.next(m.kinds[which])
	}
	return marks
}

// needs returns for each of some forms how many corrections a letter needs to be of it.
func needs(forms []api.LeForm, words []string) []choice {
	var all []choice
	for at, f := range forms {
		all = append(all, choice{at, mend(words, form{f}.slots()).fewest()})
	}
	return all
}
