package person

import (
	"escribano/api"
	"escribano/ear"
	"escribano/sets"
)

// What keeps two mentions apart, with api's numbers.
const (
	byNothing = iota
	bySound
	byVillage
	byYears
	byKin
)

// reason is something by which two mentions can be kept apart.
type reason struct {
	number int
	keeps  func(a, b int) bool
}

// reasons returns what can keep two mentions apart, the first one first.
func (k town) reasons() []reason {
	return []reason{
		{bySound, func(a, b int) bool {
			return !k.soundAlike(sets.Of(k.Mentions[a].Spelling, k.Mentions[b].Spelling))
		}},
		{byVillage, func(a, b int) bool {
			one, other := k.Mentions[a].Village, k.Mentions[b].Village
			return one != other && one != api.PeNone && other != api.PeNone
		}},
		{byYears, func(a, b int) bool { return isEmpty(overlap(k.Mentions[a].Born, k.Mentions[b].Born)) }},
		{byKin, func(a, b int) bool { return k.Mentions[a].Parent == b || k.Mentions[b].Parent == a }},
	}
}

// why returns what keeps two mentions apart.
func (k town) why(a, b int) int {
	for _, r := range k.reasons() {
		if r.keeps(a, b) {
			return r.number
		}
	}
	return byNothing
}

// soundAlike reports whether some spellings, told as bits, have a sound string in common.
func (k town) soundAlike(spellings int) bool {
	alike, known := k.alike[spellings]
	if !known {
		_, e := ear.Common(k.Ear, sets.Members(spellings))
		alike = e == api.OK
		k.alike[spellings] = alike
	}
	return alike
}
