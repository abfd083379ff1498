package rate

import (
	"iter"

	"escribano/api"
	"escribano/sets"
	"escribano/told"
)

// rates says for each day its rate; those of the days behind the last one are 0.
type rates [api.MaxRaDays]int

// isNone reports whether these are no rates of days: no rate is 0.
func (r rates) isNone() bool { return r == rates{} }

// list returns the rates of so many days in new memory.
func (r rates) list(days int) []int {
	l := make([]int, days)
	copy(l, r[:])
	return l
}

// sum is what is paid for an entry at a rate.
type sum struct{ entry, rate int }

// house is a house that is looked at.
type house struct {
	api.RaHouse
	paid map[sum]int // how many pence agents pay for the entries, at all rates that their days could have
}

// look returns a house without errors, with what its agents pay.
func look(h api.RaHouse) house {
	k := house{h, map[sum]int{}}
	for at, x := range k.Entries {
		pays := k.entry(x).pays
		for rate := k.Rates[x.Day].Lo; rate <= k.Rates[x.Day].Hi; rate++ {
			k.paid[sum{at, rate}] = pays(rate)
		}
	}
	return k
}

// isTold reports whether it is told what was paid for an entry.
func (k house) isTold(entry int) bool { return k.Entries[entry].Far != api.RaUntold }

// paidFor returns how many pence were paid for an entry, if these are the rates.
func (k house) paidFor(entry int, r rates) int {
	return k.paid[sum{entry, r[k.Entries[entry].Day]}]
}

// agrees reports whether both books agree on an entry, if these are the rates.
func (k house) agrees(entry int, r rates) bool { return k.paidFor(entry, r) == k.Entries[entry].Far }

// paidBy returns how many pence an agent has paid for all entries, if these are the rates.
func (k house) paidBy(agent int, r rates) int {
	all := 0
	for at, x := range k.Entries {
		if x.Agent == agent {
			all += k.paidFor(at, r)
		}
	}
	return all
}

// ratesOf returns from which rate to which one that of a day can be, by the rates of the days before it.
func (k house) ratesOf(day int, r rates) api.Span {
	s := k.Rates[day]
	if day == 0 {
		return s
	}
	return api.Span{Lo: max(s.Lo, r[day-1]-k.Step), Hi: min(s.Hi, r[day-1]+k.Step)}
}

// truths yields the truths that there are without the entries of a set, in their order.
func (k house) truths(out int) iter.Seq[rates] {
	entries := k.toldWithout(out)
	return func(yield func(rates) bool) {
		var give func(day int, r rates) bool
		give = func(day int, r rates) bool {
			if day == k.Days {
				return yield(r)
			}
			s := k.ratesOf(day, r)
		rates:
			for rate := s.Lo; rate <= s.Hi; rate++ {
				r[day] = rate
				for _, at := range entries[day] {
					if !k.agrees(at, r) {
						continue rates
					}
				}
				if !give(day+1, r) {
					return false
				}
			}
			return true
		}
		give(0, rates{})
	}
}

// toldWithout returns the entries of each day that are told, and not in a set.
func (k house) toldWithout(out int) [api.MaxRaDays][]int {
	var entries [api.MaxRaDays][]int
	for at, x := range k.Entries {
		if k.isTold(at) && out&sets.Of(at) == 0 {
			entries[x.Day] = append(entries[x.Day], at)
		}
	}
	return entries
}

// first returns the first truth that there is without the entries of a set, or no rates.
func (k house) first(out int) rates {
	for r := range k.truths(out) {
		return r
	}
	return rates{}
}

// isTrueWithout reports whether there is a truth without the entries of a set.
func (k house) isTrueWithout(out int) bool { return !k.first(out).isNone() }

// rate returns the rate of a day, at least and at most, or ErrZero if there is no truth.
func (k house) rate(day int) (api.Span, api.Errno) {
	return told.Number(k.truths(0), func(r rates) int { return r[day] })
}
