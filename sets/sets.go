// Package sets has what all layers need of sets of indices, which are told as bits.
package sets

import (
	"iter"
	"slices"
)

// Of returns the set of some indices.
func Of(indices ...int) int {
	set := 0
	for _, i := range indices {
		set |= 1 << i
	}
	return set
}

// All returns the set of all indices below many.
func All(many int) int { return 1<<many - 1 }

// Members returns the indices of a set, ascending.
func Members(set int) []int {
	var l []int
	for i := 0; 1<<i <= set; i++ {
		if set&(1<<i) != 0 {
			l = append(l, i)
		}
	}
	return l
}

// Where returns the indices below many of which something is so, ascending.
func Where(many int, isSo func(i int) bool) []int {
	var l []int
	for i := range many {
		if isSo(i) {
			l = append(l, i)
		}
	}
	return l
}

// Parts yields the lists of some of the indices of a set, the shorter ones first, those that are as long number by number; each one changes when the next one is made.
func Parts(set int) iter.Seq[[]int] {
	members := Members(set)
	return func(yield func(part []int) bool) {
		var give func(part, left []int, more int) bool
		give = func(part, left []int, more int) bool {
			if more == 0 {
				return yield(part)
			}
			for at, i := range left {
				if !give(append(part, i), left[at+1:], more-1) {
					return false
				}
			}
			return true
		}
		part := make([]int, 0, len(members))
		for many := range len(members) + 1 {
			if !give(part, members, many) {
				return
			}
		}
	}
}

// FewestOf returns the fewest of the indices of a set that are enough, of several lists the first one, and whether any are.
func FewestOf(set int, enough func(part int) bool) ([]int, bool) {
	for part := range Parts(set) {
		if enough(Of(part...)) {
			return slices.Clone(part), true
		}
	}
	return nil, false
}

// Fewest is FewestOf for all indices below many.
func Fewest(many int, enough func(set int) bool) ([]int, bool) { return FewestOf(All(many), enough) }
