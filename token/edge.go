package token

import (
	"escribano/api"
	"escribano/check"
	"escribano/sets"
)

// likeness is what two edges have to be like: how many heights of them are beside each other, and what each two of these have to be.
type likeness struct {
	many   int
	isLike func(one, other int) bool
}

// fit is what a half and a card have to be like, so that the half, of so many heights, fits.
func (k drawer) fit(many int) likeness {
	return likeness{many, func(half, card int) bool {
		return half == api.ToLost || check.Within(card-k.Wear, card, half)
	}}
}

// alike is what two edges have to be like, so that they are alike for a number of steps.
func (k drawer) alike(steps int) likeness {
	return likeness{steps, func(one, other int) bool {
		return check.Within(one-k.Wear, one+k.Wear, other)
	}}
}

// isAhead reports whether the first heights of two edges are so.
func (l likeness) isAhead(one, other []int) bool {
	if min(len(one), len(other)) < l.many {
		return false
	}
	for at := range l.many {
		if !l.isLike(one[at], other[at]) {
			return false
		}
	}
	return true
}

// isSomewhere reports whether heights of two edges are so from some step of each on.
func (l likeness) isSomewhere(one, other []int) bool {
	for at := range one {
		for beside := range other {
			if l.isAhead(one[at:], other[beside:]) {
				return true
			}
		}
	}
	return false
}

// areSomeAlike reports whether any two cards have edges that are alike for a number of steps.
func (k drawer) areSomeAlike(steps int) bool {
	alike := k.alike(steps)
	for set := range 1 << len(k.Cards) {
		two := sets.Members(set)
		if len(two) == 2 && alike.isSomewhere(k.Cards[two[0]].Edge, k.Cards[two[1]].Edge) {
			return true
		}
	}
	return false
}
