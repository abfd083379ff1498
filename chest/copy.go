package chest

import (
	"slices"

	"escribano/api"
	"escribano/sets"
)

// sights says for each person which copies this one may see, as bits; the places behind the last person are 0.
type sights [api.MaxChPeople]int

// with returns the sights in which a person may see a copy, too.
func (s sights) with(person, at int) sights {
	s[person] |= sets.Of(at)
	return s
}

// chest is a chest that is looked at.
type chest struct {
	api.ChChest
	sees sights
	told map[int]int // what can be told from copies, both as bits, if this was asked
}

// look returns a chest without errors, of which nothing was asked.
func look(c api.ChChest) chest {
	k := chest{ChChest: c, told: map[int]int{}}
	for at, one := range k.Copies {
		for _, person := range sets.Members(one.May) {
			k.sees = k.sees.with(person, at)
		}
	}
	return k
}

// copyWith returns the copy with a number, or -1.
func (k chest) copyWith(number int) int {
	return slices.IndexFunc(k.Copies, func(c api.ChCopy) bool { return c.Number == number })
}

// maySee reports whether a person may see a copy: if so, nothing changes when this is allowed once more.
func (k chest) maySee(person, at int) bool { return k.sees == k.sees.with(person, at) }

// copiesOf returns a person's copies.
func (k chest) copiesOf(person int) []api.ChCopy {
	var l []api.ChCopy
	for _, at := range sets.Members(k.sees[person]) {
		l = append(l, k.Copies[at])
	}
	return l
}

// wanted are words that copies have to have, as bits.
type wanted int

// areIn reports whether a copy has the words.
func (w wanted) areIn(c api.ChCopy) bool { return int(w)&^c.Words == 0 }

// isOnly reports whether no other one of a person's copies than this one has some words.
func (k chest) isOnly(person, at int, w wanted) bool {
	return !slices.ContainsFunc(k.copiesOf(person), func(c api.ChCopy) bool { return c != k.Copies[at] && w.areIn(c) })
}
