package desk

import (
	"iter"
	"slices"

	"escribano/api"
	"escribano/sets"
)

// never is a minute at which no ship sails any more.
const never = api.MaxDeMinute + 1

// each returns what reports whether something is so of each writer in a plan with each customer of this one.
func each(isSo func(writer, customer int) bool) func(plan [][]int) bool {
	return func(plan [][]int) bool {
		for writer, list := range plan {
			if slices.ContainsFunc(list, func(customer int) bool { return !isSo(writer, customer) }) {
				return false
			}
		}
		return true
	}
}

// hasAllLists reports whether a plan has a list for each writer.
func (k hall) hasAllLists(plan [][]int) bool { return len(plan) == len(k.Writers) }

// hasNobodyTwice reports whether each customer is in a plan once at most.
func hasNobodyTwice(plan [][]int) bool {
	seen := 0
	for _, list := range plan {
		for _, customer := range list {
			if seen&sets.Of(customer) != 0 {
				return false
			}
			seen |= sets.Of(customer)
		}
	}
	return true
}

// hasAllCustomers reports whether each customer is in a plan.
func (k hall) hasAllCustomers(plan [][]int) bool {
	return sets.Of(slices.Concat(plan...)...) == k.allCustomers()
}

// copied returns a plan in new memory.
func copied(plan [][]int) [][]int {
	lists := make([][]int, len(plan))
	for writer, list := range plan {
		lists[writer] = slices.Clone(list)
	}
	return lists
}

// earliest and latest return an end of when something is.
func earliest(s api.Span) int { return s.Lo }

func latest(s api.Span) int { return s.Hi }

// ends returns for each customer when the letter is sealed by a plan.
func (k hall) ends(plan [][]int) []api.Span {
	ends := make([]api.Span, len(k.Customers))
	for writer, list := range plan {
		done := k.Writers[writer].Free
		for _, customer := range list {
			takes := k.takes(customer)
			done = api.Span{Lo: done.Lo + takes.Lo, Hi: done.Hi + takes.Hi}
			ends[customer] = done
		}
	}
	return ends
}

// late returns the customers whose letters are not in time by a plan, if each is sealed at this end of when it is.
func (k hall) late(plan [][]int, end func(s api.Span) int) []int {
	ends := k.ends(plan)
	return sets.Where(len(k.Customers), func(customer int) bool { return end(ends[customer]) > k.Customers[customer].Ship })
}

// over returns when a plan is over at the latest.
func (k hall) over(plan [][]int) int {
	over := 0
	for _, s := range k.ends(plan) {
		over = max(over, latest(s))
	}
	return over
}

// plans yields the plans that surely do, in their order; each one changes when the next one is made.
func (k hall) plans() iter.Seq[[][]int] {
	return func(yield func(plan [][]int) bool) {
		plan := make([][]int, len(k.Writers))
		var give func(writer int, at state) bool
		give = func(writer int, at state) bool {
			if writer == len(k.Writers) {
				return at.customers != k.allCustomers() || yield(plan)
			}
			// a list that ends here comes before all that go on
			if !give(writer+1, at) {
				return false
			}
			list := plan[writer]
			for customer, next := range k.nexts(at, writer) {
				plan[writer] = append(list, customer)
				if !give(writer, next) {
					return false
				}
			}
			plan[writer] = list
			return true
		}
		give(0, k.start(k.allWriters(), 0))
	}
}
