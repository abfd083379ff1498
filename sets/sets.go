// Package sets has what all layers need of sets of indices, which are told as bits.
package sets

import (
	"cmp"
	"slices"
)

// Of returns the set of some indices.
func Of(indices ...int) int {
	set := 0
	for _, i := range indices {
		set |= 1 << i
	}
	return set
}

// All returns the set of all indices below many.
func All(many int) int { return 1<<many - 1 }

// Members returns the indices of a set, ascending.
func Members(set int) []int {
	var l []int
	for i := 0; 1<<i <= set; i++ {
		if set&(1<<i) != 0 {
			l = append(l, i)
		}
	}
	return l
}

// Where returns the indices below many of which something is so, ascending.
func Where(many int, isSo func(i int) bool) []int {
	var l []int
	for i := range many {
		if isSo(i) {
			l = append(l, i)
		}
	}
	return l
}

// Fewest returns the fewest of the indices below many that are enough, of several lists the first one, and whether any are.
func Fewest(many int, enough func(set int) bool) ([]int, bool) {
	var fewest []int
	found := false
	for set := range 1 << many {
		l := Members(set)
		if found && compare(l, fewest) > 0 {
			continue
		}
		if enough(set) {
			fewest, found = l, true
		}
	}
	return fewest, found
}

// compare is below 0 if a has fewer indices than b, or as many and comes first.
func compare(a, b []int) int {
	return cmp.Or(cmp.Compare(len(a), len(b)), slices.Compare(a, b))
}
