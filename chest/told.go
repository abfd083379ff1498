package chest

import (
	"escribano/api"
	"escribano/sets"
)

// toldFrom returns what can be told from the copies of a set.
func (k chest) toldFrom(copies int) int {
	facts, known := k.told[copies]
	if !known {
		for _, at := range sets.Members(copies) {
			facts |= k.Copies[at].Facts
		}
		facts = k.withRules(facts)
		k.told[copies] = facts
	}
	return facts
}

// tells reports whether a fact can be told from the copies of a set.
func (k chest) tells(copies, fact int) bool { return k.toldFrom(copies)&sets.Of(fact) != 0 }

// withRules returns some facts, and all that rules add to these.
func (k chest) withRules(facts int) int {
	// a rule adds its fact once at most, and a round adds one if there is any to add: no more rounds than rules do
	for range k.Rules {
	rules:
		for _, r := range k.Rules {
			for _, fact := range sets.Members(r.If) {
				if facts&sets.Of(fact) == 0 {
					continue rules
				}
			}
			facts |= sets.Of(r.Then)
		}
	}
	return facts
}

// question asks for the fewest indices of a set of which, as bits, something is so.
type question struct {
	set  int
	isSo func(part int) bool
}

// fewest returns them, of several lists the first one, or ErrDown if there are none.
func (q question) fewest() ([]int, api.Errno) {
	few, found := sets.FewestOf(q.set, q.isSo)
	if !found {
		return nil, api.ErrDown
	}
	return few, api.OK
}
