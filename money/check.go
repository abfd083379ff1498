package money

import (
	"escribano/api"
	"escribano/check"
	"escribano/names"
	"escribano/sets"
)

// open returns the list, and its error: that of Check, then that one of some indices is not below many, then that there is no truth.
func open(m api.MoList, many int, indices ...int) (list, api.Errno) {
	if _, _, e := Check(m); e != api.OK {
		return list{}, e
	}
	if !check.Within(0, many-1, indices...) {
		return list{}, api.ErrNone
	}
	k := look(m)
	if _, found := k.first(); !found {
		return list{}, api.ErrZero
	}
	return k, api.OK
}

// openList is open without an index.
func openList(m api.MoList) (list, api.Errno) { return open(m, 0) }

// openSum is open for a sum.
func openSum(m api.MoList, sum int) (list, api.Errno) { return open(m, len(m.Sums), sum) }

// openClaimant is open for a claimant.
func openClaimant(m api.MoList, claimant int) (list, api.Errno) {
	return open(m, len(m.Claimants), claimant)
}

// isClaimant reports whether there is such a claimant.
func (k list) isClaimant(claimant int) bool { return check.Within(0, len(k.Claimants)-1, claimant) }

// isSum reports whether there is such a sum.
func (k list) isSum(sum int) bool { return check.Within(0, len(k.Sums)-1, sum) }

// sumError returns the error of a sum.
func (k list) sumError(before []api.MoSum, s api.MoSum) api.Errno {
	if e := names.Error(before, s, func(s api.MoSum) string { return s.Name }); e != api.OK {
		return e
	}
	if !check.Within(1, api.MaxMoPence, s.Pence) || !check.Within(1, sets.All(len(k.Claimants)), s.For) {
		return api.ErrRange
	}
	return api.OK
}

// wordError returns the error of a word whose index is the number of those before it.
func (k list) wordError(before []api.MoWord, w api.MoWord) api.Errno {
	if !check.Within(is, other, w.Says) {
		return api.ErrRange
	}
	isOf := k.isClaimant
	ofSums := sayings()[w.Says].ofSums
	if ofSums {
		isOf = k.isSum
	}
	if !k.isSum(w.Sum) || !isOf(w.Of) || !check.Within(api.MoNone, len(k.Words)-1, w.Back) {
		return api.ErrNone
	}
	if w.Back == len(before) || ofSums && w.Of == w.Sum {
		return api.ErrArg
	}
	return api.OK
}

// paidError returns the error of a payment.
func (k list) paidError(_ []api.MoPaid, p api.MoPaid) api.Errno {
	if !k.isSum(p.Sum) || !k.isClaimant(p.Claimant) {
		return api.ErrNone
	}
	return api.OK
}
