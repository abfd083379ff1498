package ship

import (
	"iter"
	"slices"

	"escribano/api"
	"escribano/sets"
	"escribano/told"
)

// fares says of each ship how it fares; the places behind the last ship are 0.
type fares [api.MaxShShips]fare

// routes says by which ships, as bits, each letter can go: a truth has any one of them for each letter.
type routes [api.MaxShLetters]int

// brings says by which ships, as bits, the letter of each report can go because of this report; it says nothing of reports of ships.
type brings [api.MaxShReports]int

// harbour is a harbour that is looked at.
type harbour struct {
	api.ShHarbour
	takers []int            // for each letter, which ships can take it, whatever was reported
	brings map[fares]brings // what was asked already: Wrong asks again for each set of reports
}

// look returns a harbour of which nothing was asked.
func look(h api.ShHarbour) harbour {
	k := harbour{ShHarbour: h, brings: map[fares]brings{}}
	for _, l := range h.Letters {
		k.takers = append(k.takers, k.takersOf(l))
	}
	return k
}

// takersOf returns the ships that can take a letter.
func (k harbour) takersOf(l api.ShLetter) int {
	if l.Ship != api.ShNone {
		return sets.Of(l.Ship)
	}
	takers := 0
	for ship, s := range k.Ships {
		if takes(s, l.Port, l.Day) {
			takers |= sets.Of(ship)
		}
	}
	return takers
}

// voyage returns a ship as it fares.
func (k harbour) voyage(f fares, ship int) voyage { return voyage{k.Ships[ship], f[ship]} }

// sunk returns the ships that sink, as bits.
func (k harbour) sunk(f fares) int {
	sunk := 0
	for ship := range k.Ships {
		if k.voyage(f, ship).sinks() {
			sunk |= sets.Of(ship)
		}
	}
	return sunk
}

// truths yields how ships fare in truths, each with the routes of its letters; the reports of a set are left out.
func (k harbour) truths(out int) iter.Seq2[fares, routes] {
	return func(yield func(fares, routes) bool) {
		var sail func(ship int, f fares) bool
		sail = func(ship int, f fares) bool {
			if ship == len(k.Ships) {
				by, areSome := k.routes(f, out)
				return !areSome || yield(f, by)
			}
		voyages:
			for _, v := range voyages(k.Ships[ship]) {
				for at, r := range k.Reports {
					if out&sets.Of(at) == 0 && !isOfLetter(r) && r.Of == ship && !k.isSo(r, v.calls) {
						continue voyages
					}
				}
				f[ship] = v.fare
				if !sail(ship+1, f) {
					return false
				}
			}
			return true
		}
		sail(0, fares{})
	}
}

// routes returns by which ships letters can go if ships fare so, and whether not too many sink and each letter can go; the reports of a set are left out.
func (k harbour) routes(f fares, out int) (routes, bool) {
	var by routes
	if len(sets.Members(k.sunk(f))) > k.Lost {
		return by, false
	}
	copy(by[:], k.takers)
	ships := k.bringsIf(f)
	for at, r := range k.Reports {
		if out&sets.Of(at) == 0 && isOfLetter(r) {
			by[r.Of] &= ships[at]
		}
	}
	return by, !slices.Contains(by[:len(k.Letters)], 0)
}

// bringsIf returns by which ships letters can go because of each report, if ships fare so.
func (k harbour) bringsIf(f fares) brings {
	ships, known := k.brings[f]
	if known {
		return ships
	}
	for at, r := range k.Reports {
		for ship := range k.Ships {
			if isOfLetter(r) && k.isSo(r, k.voyage(f, ship).calls) {
				ships[at] |= sets.Of(ship)
			}
		}
	}
	k.brings[f] = ships
	return ships
}

// arrivals returns when a letter can come if ships fare so.
func (k harbour) arrivals(f fares, by routes, letter int) []arrival {
	var l []arrival
	for _, ship := range sets.Members(by[letter]) {
		l = append(l, k.voyage(f, ship).calls(k.Letters[letter].Port))
	}
	return l
}

// possible reports whether there is a truth; the reports of a set are left out.
func (k harbour) possible(out int) bool {
	for range k.truths(out) {
		return true
	}
	return false
}

// calls returns the days on which a ship calls at a port, and whether it does.
func (k harbour) calls(ship, port int) (api.Span, int, api.Errno) {
	var tally told.Tally
	days := api.Span{Lo: api.MaxShDay}
	for f := range k.truths(0) {
		a := k.voyage(f, ship).calls(port)
		tally.Add(a.made)
		if a.made {
			days = api.Span{Lo: min(days.Lo, a.day), Hi: max(days.Hi, a.day)}
		}
	}
	how, e := tally.How()
	if e != api.OK || how == api.Never {
		return api.Span{}, how, e
	}
	return days, how, api.OK
}
