package desk_test

import (
	"math/rand/v2"
	"slices"
	"testing"

	"escribano/api"
	"escribano/desk"
)

// never is what the tests write for a minute with ErrDown.
const never = -1

// span is a span.
func span(lo, hi int) api.Span { return api.Span{Lo: lo, Hi: hi} }

// writer is a writer.
func writer(name string, kinds, lo, hi int) api.DeWriter {
	return api.DeWriter{Name: name, Kinds: kinds, Free: span(lo, hi)}
}

// customer is a customer.
func customer(name string, kind, lo, hi, ship int) api.DeCustomer {
	return api.DeCustomer{Name: name, Kind: kind, Talk: span(lo, hi), Ship: ship}
}

// exampleH and exampleF are H and F of the document's examples, and exampleP is P.
func exampleH() api.DeHall {
	return api.DeHall{
		Seal:    1,
		Writers: []api.DeWriter{writer("paz", 3, 0, 0), writer("rut", 1, 2, 4)},
		Customers: []api.DeCustomer{
			customer("ana", 0, 5, 8, 20),
			customer("ben", 1, 6, 10, 12),
			customer("cora", 0, 4, 6, 15),
		},
	}
}

func exampleF() api.DeHall { return sailing(exampleH(), 0, 17) }

func exampleP() [][]int { return [][]int{{1}, {2, 0}} }

// waits is a customer of the kind 0 who talks for so many minutes, and whose ship sails at a minute.
type waits struct{ talk, ship int }

// plain is a hall with so many writers, who write all kinds and are free at 0, with customers a, b, c and so on.
func plain(seal, writers int, customers ...waits) api.DeHall {
	h := api.DeHall{Seal: seal}
	for at := range writers {
		h.Writers = append(h.Writers, writer(string(rune('x'+at)), api.MaxDeKinds, 0, 0))
	}
	for at, w := range customers {
		h.Customers = append(h.Customers, customer(string(rune('a'+at)), 0, w.talk, w.talk, w.ship))
	}
	return h
}

// by is a hall with other writers.
func by(h api.DeHall, writers ...api.DeWriter) api.DeHall {
	h.Writers = writers
	return h
}

// with is a hall with more customers.
func with(h api.DeHall, more ...api.DeCustomer) api.DeHall {
	h.Customers = slices.Concat(h.Customers, more)
	return h
}

// sailing is a hall in which the ship of a customer sails at another minute.
func sailing(h api.DeHall, customer, minute int) api.DeHall {
	h.Customers = slices.Clone(h.Customers)
	h.Customers[customer].Ship = minute
	return h
}

// left returns the things with the indices of a list only, and others all but those.
func left[T any](things []T, list []int) []T {
	var l []T
	for _, at := range list {
		l = append(l, things[at])
	}
	return l
}

func others[T any](things []T, list []int) []T {
	var l []T
	for at, thing := range things {
		if !slices.Contains(list, at) {
			l = append(l, thing)
		}
	}
	return l
}

// onlyWriters is a hall without all writers but some, and sentAway one without some customers.
func onlyWriters(h api.DeHall, writers []int) api.DeHall {
	h.Writers = left(h.Writers, writers)
	return h
}

func sentAway(h api.DeHall, customers []int) api.DeHall {
	h.Customers = others(h.Customers, customers)
	return h
}

// cloned is a hall that shares no memory with h; sameHall reports whether two halls are equal.
func cloned(h api.DeHall) api.DeHall {
	h.Writers, h.Customers = slices.Clone(h.Writers), slices.Clone(h.Customers)
	return h
}

func sameHall(a, b api.DeHall) bool {
	return a.Seal == b.Seal && slices.Equal(a.Writers, b.Writers) && slices.Equal(a.Customers, b.Customers)
}

// clonedPlan is a plan that shares no memory with p; samePlan reports whether two plans are equal.
func clonedPlan(p [][]int) [][]int {
	p = slices.Clone(p)
	for at, l := range p {
		p[at] = slices.Clone(l)
	}
	return p
}

func samePlan(a, b [][]int) bool { return comparePlans(a, b) == 0 }

// comparePlans is below 0 if a comes before b.
func comparePlans(a, b [][]int) int { return slices.CompareFunc(a, b, slices.Compare[[]int]) }

// arguments are what functions are given beside a hall.
type arguments struct {
	plan     [][]int
	customer int
}

// errors returns the error of each function but Check.
func errors(h api.DeHall, a arguments) [7]api.Errno {
	_, ends := desk.Ends(h, a.plan)
	_, fate := desk.Fate(h, a.plan)
	_, late := desk.Late(h, a.plan)
	_, _, best := desk.Best(h)
	_, enough := desk.Enough(h)
	_, away := desk.Away(h)
	_, later := desk.Later(h, a.customer)
	return [7]api.Errno{ends, fate, late, best, enough, away, later}
}

// allErrors is an error of all functions but Check.
func allErrors(e api.Errno) [7]api.Errno { return [7]api.Errno{e, e, e, e, e, e, e} }

// must returns the result of a call, which must have no error.
func must[T any](t *testing.T) func(result T, e api.Errno) T {
	return func(result T, e api.Errno) T {
		t.Helper()
		if e != api.OK {
			t.Fatalf("error %d", e)
		}
		return result
	}
}

// bestOf returns Best's plan and when it is over, or no plan and never with ErrDown.
func bestOf(t *testing.T, h api.DeHall) ([][]int, int) {
	t.Helper()
	plan, over, e := desk.Best(h)
	switch {
	case e == api.ErrDown && len(plan) == 0 && over == 0:
		return nil, never
	case e != api.OK:
		t.Fatalf("Best = %v, %d, %d", plan, over, e)
	}
	return plan, over
}

// isDone reports whether there is a plan that surely does.
func isDone(t *testing.T, h api.DeHall) bool {
	t.Helper()
	_, over := bestOf(t, h)
	return over != never
}

// orNever returns the result of a call, or never with ErrDown.
func orNever(t *testing.T) func(result int, e api.Errno) int {
	return func(result int, e api.Errno) int {
		t.Helper()
		switch {
		case e == api.ErrDown && result == 0:
			return never
		case e != api.OK:
			t.Fatalf("%d, error %d", result, e)
		}
		return result
	}
}

// enoughOf returns Enough and whether there are such writers: none, and false, with ErrDown.
func enoughOf(t *testing.T, h api.DeHall) ([]int, bool) {
	t.Helper()
	l, e := desk.Enough(h)
	if e == api.ErrDown && len(l) == 0 {
		return nil, false
	}
	return must[[]int](t)(l, e), true
}

// truth is what the tests hold for a truth: when writers are free, and for how long customers talk.
type truth struct{ free, talk []int }

// truthOf returns a truth with a number of each span.
func truthOf(h api.DeHall, number func(s api.Span) int) truth {
	var u truth
	for _, w := range h.Writers {
		u.free = append(u.free, number(w.Free))
	}
	for _, c := range h.Customers {
		u.talk = append(u.talk, number(c.Talk))
	}
	return u
}

// latest is the truth in which everything is late.
func latest(h api.DeHall) truth { return truthOf(h, func(s api.Span) int { return s.Hi }) }

// anyTruth returns a truth.
func anyTruth(d *rand.Rand, h api.DeHall) truth {
	return truthOf(h, func(s api.Span) int { return s.Lo + d.IntN(s.Hi-s.Lo+1) })
}

// allTruths returns all truths.
func allTruths(h api.DeHall) []truth {
	many := 1
	truthOf(h, func(s api.Span) int {
		many *= s.Hi - s.Lo + 1
		return 0
	})
	var all []truth
	for number := range many {
		all = append(all, truthOf(h, func(s api.Span) int {
			wide := s.Hi - s.Lo + 1
			at := number % wide
			number /= wide
			return s.Lo + at
		}))
	}
	return all
}

// sealed returns for each customer when the letter is sealed by a plan in a truth.
func sealed(h api.DeHall, plan [][]int, u truth) []int {
	minutes := make([]int, len(h.Customers))
	for writer, list := range plan {
		for at, customer := range list {
			minutes[customer] = u.free[writer] + (at+1)*h.Seal
			for _, one := range list[:at+1] {
				minutes[customer] += u.talk[one]
			}
		}
	}
	return minutes
}

// over returns when a plan is over in a truth.
func over(h api.DeHall, plan [][]int, u truth) int {
	return slices.Max(append(sealed(h, plan, u), 0))
}

// tooLate returns the customers whose letters are not in time by a plan in a truth.
func tooLate(h api.DeHall, plan [][]int, u truth) []int {
	var l []int
	for at, minute := range sealed(h, plan, u) {
		if minute > h.Customers[at].Ship {
			l = append(l, at)
		}
	}
	return l
}

// does reports whether a plan does in a truth.
func does(h api.DeHall, plan [][]int, u truth) bool { return len(tooLate(h, plan, u)) == 0 }

// knownOf returns the ends of a plan, its fate, and the first customer who may be late, or never: what is so in all truths, and in some.
func knownOf(h api.DeHall, plan [][]int) (ends []api.Span, fate, first int) {
	so, late, all := 0, map[int]bool{}, allTruths(h)
	for _, minute := range sealed(h, plan, all[0]) {
		ends = append(ends, span(minute, minute))
	}
	for _, u := range all {
		for at, minute := range sealed(h, plan, u) {
			ends[at] = span(min(ends[at].Lo, minute), max(ends[at].Hi, minute))
		}
		for _, at := range tooLate(h, plan, u) {
			late[at] = true
		}
		if does(h, plan, u) {
			so++
		}
	}
	fate, first = api.May, never
	switch so {
	case 0:
		fate = api.Never
	case len(all):
		fate = api.Must
	}
	for at, c := range h.Customers {
		if late[at] && (first == never || c.Ship < h.Customers[first].Ship) {
			first = at
		}
	}
	return ends, fate, first
}

// canWrite reports whether a writer can write a kind.
func canWrite(w api.DeWriter, kind int) bool {
	return slices.Contains([][]int{{}, {0}, {1}, {0, 1}, {2}, {0, 2}, {1, 2}, {0, 1, 2}, {3}, {0, 3}, {1, 3}, {0, 1, 3}, {2, 3}, {0, 2, 3}, {1, 2, 3}, {0, 1, 2, 3}}[w.Kinds], kind)
}

// knownPlans returns all plans of a hall, in their order: each customer is put at each place of each list.
func knownPlans(h api.DeHall) [][][]int {
	all := [][][]int{make([][]int, len(h.Writers))}
	for customer, c := range h.Customers {
		var more [][][]int
		for _, plan := range all {
			for writer, list := range plan {
				for place := range len(list) + 1 {
					if canWrite(h.Writers[writer], c.Kind) {
						p := slices.Clone(plan)
						p[writer] = slices.Insert(slices.Clone(list), place, customer)
						more = append(more, p)
					}
				}
			}
		}
		all = more
	}
	slices.SortFunc(all, comparePlans)
	return all
}

// knownSure returns the plans of a hall that surely do, in their order: those that do in the latest truth.
func knownSure(h api.DeHall) [][][]int {
	late := latest(h)
	return slices.DeleteFunc(knownPlans(h), func(plan [][]int) bool { return !does(h, plan, late) })
}

// knownBest returns which one of some plans is over first in the latest truth, and when it is; or no plan and never.
func knownBest(h api.DeHall, plans [][][]int) ([][]int, int) {
	var best [][]int
	first, late := never, latest(h)
	for _, plan := range plans {
		if minute := over(h, plan, late); first == never || minute < first {
			best, first = plan, minute
		}
	}
	return best, first
}

// knownLater returns what Later has to return, or never: of all plans that do for the others, the one in which this customer's letter is sealed first decides.
func knownLater(h api.DeHall, customer int) int {
	free := sailing(h, customer, api.MaxDeMinute)
	least := never
	for _, plan := range knownSure(free) {
		more := max(sealed(h, plan, latest(h))[customer]-h.Customers[customer].Ship, 0)
		if least == never || more < least {
			least = more
		}
	}
	return least
}

// subsets returns all lists of numbers below n, the shorter ones first, then number by number.
func subsets(n int) [][]int {
	all := [][]int{nil}
	for number := range n {
		for _, l := range all {
			all = append(all, append(slices.Clone(l), number))
		}
	}
	slices.SortFunc(all, func(a, b []int) int {
		if len(a) != len(b) {
			return len(a) - len(b)
		}
		return slices.Compare(a, b)
	})
	return all
}

// firstOf returns the first of all lists of numbers below n of which something is so, and whether there is one.
func firstOf(n int, isSo func(l []int) bool) ([]int, bool) {
	for _, l := range subsets(n) {
		if isSo(l) {
			return l, true
		}
	}
	return nil, false
}

// dice returns numbers that are the same in each run.
func dice(seed uint64) *rand.Rand { return rand.New(rand.NewPCG(seed, 9)) }

// oneOf returns one of some things.
func oneOf[T any](d *rand.Rand, things ...T) T { return things[d.IntN(len(things))] }

// anySpan returns a span from lo to hi that is not wider than so much.
func anySpan(d *rand.Rand, lo, hi, wide int) api.Span {
	least := lo + d.IntN(hi-lo+1)
	return span(least, min(hi, least+d.IntN(wide+1)))
}

// anyPlan returns a plan of a hall, or false if there is none.
func anyPlan(d *rand.Rand, h api.DeHall) ([][]int, bool) {
	plan := make([][]int, len(h.Writers))
	for _, customer := range d.Perm(len(h.Customers)) {
		var who []int
		for at, w := range h.Writers {
			if canWrite(w, h.Customers[customer].Kind) {
				who = append(who, at)
			}
		}
		if len(who) == 0 {
			return nil, false
		}
		writer := oneOf(d, who...)
		plan[writer] = append(plan[writer], customer)
	}
	return plan, true
}

// anyHall returns a hall; ships sail about when the letters of some plan are sealed, mostly in the latest truth.
func anyHall(d *rand.Rand, writers, customers, wide int) api.DeHall {
	h := api.DeHall{Seal: d.IntN(api.MaxDeSeal + 1)}
	lastFree := oneOf(d, 0, 5, 10, 30, api.MaxDeMinute)
	for at := range writers {
		kinds := oneOf(d, api.MaxDeKinds, api.MaxDeKinds, d.IntN(api.MaxDeKinds+1))
		h.Writers = append(h.Writers, api.DeWriter{Name: string(rune('x' + at)), Kinds: kinds, Free: anySpan(d, 0, lastFree, wide)})
	}
	lastTalk := oneOf(d, 4, 10, api.MaxDeTalk)
	for at := range customers {
		c := api.DeCustomer{Name: string(rune('a' + at)), Kind: d.IntN(4), Talk: anySpan(d, 1, lastTalk, wide), Ship: d.IntN(api.MaxDeMinute + 1)}
		h.Customers = append(h.Customers, c)
	}
	plan, found := anyPlan(d, h)
	if !found {
		return h
	}
	tight := d.IntN(3)
	for at, minute := range sealed(h, plan, oneOf(d, latest(h), latest(h), anyTruth(d, h))) {
		slack := oneOf(d, 0, 0, 1, 3, 10)
		if tight == 0 {
			slack = oneOf(d, -5, -2, 0, 0, 0, 2)
		}
		h.Customers[at].Ship = min(max(minute+slack, 0), api.MaxDeMinute)
	}
	return h
}

// eachHall calls a test for many halls.
func eachHall(t *testing.T, test func(t *testing.T, d *rand.Rand, h api.DeHall)) {
	for seed := range uint64(4000) {
		d := dice(seed)
		h := anyHall(d, oneOf(d, 0, 1, 1, 2, 2, 2, 3), oneOf(d, 0, 1, 2, 2, 3, 3, 4, 5), oneOf(d, 0, 1, 2, 2, 6, 20))
		if part, at, e := desk.Check(h); part != 0 || at != 0 || e != api.OK {
			t.Fatalf("Check of %+v = %d, %d, %d", h, part, at, e)
		}
		test(t, d, h)
		if t.Failed() {
			t.Fatalf("the hall was %+v", h)
		}
	}
}

// eachPlan calls a test for many halls with a plan.
func eachPlan(t *testing.T, test func(t *testing.T, d *rand.Rand, h api.DeHall, plan [][]int)) {
	eachHall(t, func(t *testing.T, d *rand.Rand, h api.DeHall) {
		if plan, found := anyPlan(d, h); found {
			test(t, d, h, plan)
			if t.Failed() {
				t.Fatalf("the plan was %v", plan)
			}
		}
	})
}

// ordered returns a plan in which the customers of each writer come in the order in which their ships sail.
func ordered(h api.DeHall, plan [][]int) [][]int {
	plan = clonedPlan(plan)
	for _, list := range plan {
		slices.SortStableFunc(list, func(a, b int) int { return h.Customers[a].Ship - h.Customers[b].Ship })
	}
	return plan
}
