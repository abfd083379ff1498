package desk

import (
	"escribano/api"
	"escribano/check"
	"escribano/names"
)

// lastKind is the greatest kind of a letter: that of the greatest one of api.MaxDeKinds.
const lastKind = 3

// open returns the hall, and its error.
func open(h api.DeHall) (hall, api.Errno) {
	if _, _, e := Check(h); e != api.OK {
		return hall{}, e
	}
	return look(h), api.OK
}

// openPlan is open, with the error of a plan behind it.
func openPlan(h api.DeHall, plan [][]int) (hall, api.Errno) {
	k, e := open(h)
	if e != api.OK {
		return hall{}, e
	}
	if e := k.planError(plan); e != api.OK {
		return hall{}, e
	}
	return k, api.OK
}

// openCustomer is open, with the error that a customer is no index behind it.
func openCustomer(h api.DeHall, customer int) (hall, api.Errno) {
	k, e := open(h)
	if e == api.OK && !k.isCustomer(customer) {
		return hall{}, api.ErrNone
	}
	return k, e
}

// isCustomer reports whether there is such a customer.
func (k hall) isCustomer(customer int) bool { return check.Within(0, len(k.Customers)-1, customer) }

// writerError returns the error of a writer.
func writerError(before []api.DeWriter, w api.DeWriter) api.Errno {
	if e := names.Error(before, w, func(w api.DeWriter) string { return w.Name }); e != api.OK {
		return e
	}
	if !check.Within(0, api.MaxDeKinds, w.Kinds) {
		return api.ErrRange
	}
	return check.Span(0, api.MaxDeMinute, w.Free)
}

// customerError returns the error of a customer.
func customerError(before []api.DeCustomer, c api.DeCustomer) api.Errno {
	if e := names.Error(before, c, func(c api.DeCustomer) string { return c.Name }); e != api.OK {
		return e
	}
	if !check.Within(0, lastKind, c.Kind) || !check.Within(0, api.MaxDeMinute, c.Ship) {
		return api.ErrRange
	}
	return check.Span(1, api.MaxDeTalk, c.Talk)
}

// rule is what has to be so of a plan, and its error if it is not.
type rule struct {
	isKept func(plan [][]int) bool
	e      api.Errno
}

// rules returns what has to be so of a plan, in the order of the errors: each rule can take those ahead of it for granted.
func (k hall) rules() []rule {
	return []rule{
		{k.hasAllLists, api.ErrLong},
		{each(func(_, customer int) bool { return k.isCustomer(customer) }), api.ErrNone},
		{hasNobodyTwice, api.ErrTwice},
		{each(k.canWrite), api.ErrArg},
		{k.hasAllCustomers, api.ErrZero},
	}
}

// planError returns the error of a plan.
func (k hall) planError(plan [][]int) api.Errno {
	_, e := check.First(k.rules(), func(_ []rule, r rule) api.Errno {
		if !r.isKept(plan) {
			return r.e
		}
		return api.OK
	})
	return e
}
