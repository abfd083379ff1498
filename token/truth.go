package token

import (
	"iter"

	"escribano/api"
	"escribano/sets"
	"escribano/told"
)

// cards says for each half of which card it is, or that it is forged; the places behind the last half are forged, too.
type cards [api.MaxToHalves]int

// allForged returns that all halves are forged.
func allForged() cards {
	var c cards
	for half := range c {
		c[half] = api.ToForged
	}
	return c
}

// list returns the cards of so many halves in new memory.
func (c cards) list(halves int) []int {
	l := make([]int, halves)
	copy(l, c[:])
	return l
}

// forged returns which ones of so many halves are forged.
func (c cards) forged(halves int) []int {
	return sets.Where(halves, func(half int) bool { return c[half] == api.ToForged })
}

// place is where a half is put: beside a card, from a step of it on.
type place struct{ half, card, step int }

// drawer is a drawer that is looked at.
type drawer struct {
	api.ToDrawer
	fits map[place]bool // where halves fit
}

// look returns a drawer, with the places at which its halves fit.
func look(d api.ToDrawer) drawer {
	k := drawer{d, map[place]bool{}}
	for half, h := range k.Halves {
		fit := k.fit(len(h.Edge))
		for card, c := range k.Cards {
			for step := range k.Steps {
				k.fits[place{half, card, step}] = fit.isAhead(h.Edge, c.Edge[step:])
			}
		}
	}
	return k
}

// steps returns the steps at which a half fits a card, ascending.
func (k drawer) steps(half, card int) []int {
	return sets.Where(k.Steps, func(step int) bool { return k.fits[place{half, card, step}] })
}

// fitsCard reports whether a half fits a card.
func (k drawer) fitsCard(half, card int) bool { return len(k.steps(half, card)) > 0 }

// truths yields the truths in their order.
func (k drawer) truths() iter.Seq[cards] {
	fits := k.fitsCard
	return func(yield func(cards) bool) {
		var give func(half int, c cards) bool
		give = func(half int, c cards) bool {
			if half == len(k.Halves) {
				return yield(c)
			}
			if !give(half+1, c) {
				return false
			}
		cards:
			for card := range k.Cards {
				if !fits(half, card) {
					continue
				}
				for _, taken := range c[:half] {
					if taken == card {
						continue cards
					}
				}
				c[half] = card
				if !give(half+1, c) {
					return false
				}
			}
			return true
		}
		give(0, allForged())
	}
}

// fair returns the fair truths in their order; there always is one, as all halves can be forged.
func (k drawer) fair() []cards {
	return told.Fewest(k.truths(), func(c cards) int { return len(c.forged(len(k.Halves))) })
}

// sure returns the cards that halves have in all fair truths; a half of which none is sure counts as forged.
func (k drawer) sure() cards {
	fair := k.fair()
	sure := fair[0]
	for _, c := range fair[1:] {
		for half, card := range c {
			if card != sure[half] {
				sure[half] = api.ToForged
			}
		}
		if sure == allForged() {
			break
		}
	}
	return sure
}
