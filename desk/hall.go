package desk

import (
	"iter"
	"slices"

	"escribano/api"
	"escribano/sets"
)

// minutes says for each writer when this one is done at the latest; the places behind the last writer are 0.
type minutes [api.MaxDeWriters]int

// state is when the writers are done, and which customers are, as bits.
type state struct {
	done      minutes
	customers int
}

// hall is a hall that is looked at.
type hall struct {
	api.DeHall
	known map[state]bool // whether all letters that are left surely can be in time, if this was asked
}

// look returns a hall without errors, of which nothing was asked.
func look(h api.DeHall) hall { return hall{h, map[state]bool{}} }

// withShip returns the hall in which a customer's ship sails at another minute.
func (k hall) withShip(customer, minute int) hall {
	h := k.DeHall
	h.Customers = slices.Clone(h.Customers)
	h.Customers[customer].Ship = minute
	return look(h)
}

// allWriters returns the set of all writers, and allCustomers that of all customers.
func (k hall) allWriters() int { return sets.All(len(k.Writers)) }

func (k hall) allCustomers() int { return sets.All(len(k.Customers)) }

// canWrite reports whether a writer can write the letter of a customer.
func (k hall) canWrite(writer, customer int) bool {
	return k.Writers[writer].Kinds&sets.Of(k.Customers[customer].Kind) != 0
}

// takes returns how many minutes it takes until a customer's letter is sealed.
func (k hall) takes(customer int) api.Span {
	talk := k.Customers[customer].Talk
	return api.Span{Lo: talk.Lo + k.Seal, Hi: talk.Hi + k.Seal}
}

// start returns the state in which nothing is written yet: only the writers of a set ever write, and the customers of a set are away.
func (k hall) start(writers, away int) state {
	at := state{customers: away}
	for writer, w := range k.Writers {
		// who is free at the last minute has no letter sealed before a ship sails
		at.done[writer] = api.MaxDeMinute
		if writers&sets.Of(writer) != 0 {
			at.done[writer] = w.Free.Hi
		}
	}
	return at
}

// after returns when the writers are done if one of them writes for a customer next: as before if this customer cannot be next.
func (k hall) after(at state, writer, customer int) minutes {
	done := at.done
	done[writer] += k.takes(customer).Hi
	if at.customers&sets.Of(customer) != 0 || !k.canWrite(writer, customer) || done[writer] > k.Customers[customer].Ship {
		return at.done
	}
	return done
}

// nexts yields the customers who can be a writer's next one, each with the state behind it.
func (k hall) nexts(at state, writer int) iter.Seq2[int, state] {
	return func(yield func(customer int, next state) bool) {
	customers:
		for customer := range k.Customers {
			done := k.after(at, writer, customer)
			if done == at.done {
				continue customers
			}
			if !yield(customer, state{done, at.customers | sets.Of(customer)}) {
				return
			}
		}
	}
}

// can reports whether the writers of a set have a plan that surely does, if the customers of a set are away.
func (k hall) can(writers, away int) bool { return k.canEnd(k.start(writers, away)) }

// canEnd reports whether all letters that are left surely can be in time.
func (k hall) canEnd(at state) bool {
	can, known := k.known[at]
	if !known {
		can = at.customers == k.allCustomers() || k.canGoOn(at)
		k.known[at] = can
	}
	return can
}

// canGoOn is canEnd, by what can be next.
func (k hall) canGoOn(at state) bool {
	for writer := range k.Writers {
		for _, next := range k.nexts(at, writer) {
			if k.canEnd(next) {
				return true
			}
		}
	}
	return false
}
