package money

import (
	"iter"
	"slices"

	"escribano/api"
	"escribano/sets"
)

// claimants says for each sum which claimant it is for; the places behind the last sum are 0.
type claimants [api.MaxMoSums]int

// list returns the claimants of so many sums in new memory.
func (c claimants) list(sums int) []int {
	l := make([]int, sums)
	copy(l, c[:])
	return l
}

// payment returns to whom a sum has to be paid, as a payment.
func (c claimants) payment(sum int) api.MoPaid { return api.MoPaid{Sum: sum, Claimant: c[sum]} }

// pence says for each claimant how many pence this one is owed.
type pence [api.MaxMoClaimants]int

// list is a list that is looked at.
type list struct {
	api.MoList
	said [api.MaxMoSums][]word // the words that count, each at the last sum of which it tells
}

// look returns a list without errors, with the words that count.
func look(m api.MoList) list {
	k := list{MoList: m}
	kinds := sayings()
	for _, at := range sets.Where(len(k.Words), k.counts) {
		w := word{k.Words[at], kinds[k.Words[at].Says]}
		last := w.last()
		k.said[last] = append(k.said[last], w)
	}
	return k
}

// truths yields the truths in their order.
func (k list) truths() iter.Seq[claimants] {
	return func(yield func(claimants) bool) {
		var give func(sum int, c claimants) bool
		give = func(sum int, c claimants) bool {
			if sum == len(k.Sums) {
				return yield(c)
			}
		claimants:
			for _, claimant := range sets.Members(k.Sums[sum].For) {
				c[sum] = claimant
				for _, w := range k.said[sum] {
					if !w.isSo(c) {
						continue claimants
					}
				}
				if !give(sum+1, c) {
					return false
				}
			}
			return true
		}
		give(0, claimants{})
	}
}

// first returns the first truth, and whether there is one.
func (k list) first() (claimants, bool) {
	for c := range k.truths() {
		return c, true
	}
	return claimants{}, false
}

// isDecided reports whether there is a truth, and no other one: just then no sum is held.
func (k list) isDecided() bool {
	first, found := k.first()
	for c := range k.truths() {
		if c != first {
			return false
		}
	}
	return found
}

// claimantsOf returns the claimants whom a sum is for in some truth.
func (k list) claimantsOf(sum int) []int {
	who := 0
	for c := range k.truths() {
		who |= sets.Of(c[sum])
	}
	return sets.Members(who)
}

// isHeld reports whether a sum is held.
func (k list) isHeld(sum int) bool { return len(k.claimantsOf(sum)) > 1 }

// owed returns what claimants are owed in each truth.
func (k list) owed() map[claimants]pence {
	owed := map[claimants]pence{}
	for c := range k.truths() {
		var p pence
		for sum, s := range k.Sums {
			p[c[sum]] += s.Pence
		}
		owed[c] = p
	}
	return owed
}

// isPaid reports whether there is a payment of a sum.
func (k list) isPaid(sum int) bool {
	return slices.ContainsFunc(k.Paid, func(p api.MoPaid) bool { return p.Sum == sum })
}

// canBeWrong reports whether all payments but those of a set can have been right.
func (k list) canBeWrong(out int) bool {
	for c := range k.truths() {
		if k.areRight(c, out) {
			return true
		}
	}
	return false
}

// areRight reports whether all payments but those of a set are of a sum each, and to the claimant whom it is for.
func (k list) areRight(c claimants, out int) bool {
	paid := 0
	for at, p := range k.Paid {
		if out&sets.Of(at) != 0 {
			continue
		}
		if p != c.payment(p.Sum) || paid&sets.Of(p.Sum) != 0 {
			return false
		}
		paid |= sets.Of(p.Sum)
	}
	return true
}
