// Package sea has what all layers need of ships, and of letters that go by them: the truths of a harbour.
package sea

import (
	"iter"
	"slices"

	"escribano/api"
	"escribano/check"
	"escribano/sets"
)

// Fares says of each ship how it fares; the places behind the last ship are 0.
type Fares [api.MaxShShips]fare

// Routes says by which ships, as bits, each letter can go: a truth has any one of them for each letter.
type Routes [api.MaxShLetters]int

// brings says by which ships, as bits, the letter of each report can go because of this report; it says nothing of reports of ships.
type brings [api.MaxShReports]int

// Harbour is a harbour that is looked at.
type Harbour struct {
	api.ShHarbour
	takers []int            // for each letter, which ships can take it, whatever was reported
	brings map[Fares]brings // what was asked already: the same is asked again for each set of reports
}

// Look returns a harbour without errors, of which nothing was asked.
func Look(h api.ShHarbour) Harbour {
	k := Harbour{ShHarbour: h, brings: map[Fares]brings{}}
	for _, l := range h.Letters {
		k.takers = append(k.takers, k.takersOf(l))
	}
	return k
}

// takersOf returns the ships that can take a letter.
func (k Harbour) takersOf(l api.ShLetter) int {
	if l.Ship != api.ShNone {
		return sets.Of(l.Ship)
	}
	takers := 0
	for ship, s := range k.Ships {
		if Takes(s, l.Port, l.Day) {
			takers |= sets.Of(ship)
		}
	}
	return takers
}

// IsPort reports whether a harbour has such a port.
func IsPort(h api.ShHarbour, port int) bool { return check.Within(0, h.Ports-1, port) }

// IsDay reports whether a day is one on which something can be, or be asked for.
func IsDay(day int) bool { return check.Within(0, api.MaxShDay, day) }

// voyage returns a ship as it fares.
func (k Harbour) voyage(f Fares, ship int) voyage { return voyage{k.Ships[ship], f[ship]} }

// Sunk returns the ships that sink, as bits.
func (k Harbour) Sunk(f Fares) int {
	sunk := 0
	for ship := range k.Ships {
		if k.voyage(f, ship).sinks() {
			sunk |= sets.Of(ship)
		}
	}
	return sunk
}

// Truths yields how ships fare in truths, each with the routes of its letters; the reports of a set are left out.
func (k Harbour) Truths(out int) iter.Seq2[Fares, Routes] {
	return func(yield func(Fares, Routes) bool) {
		var sail func(ship int, f Fares) bool
		sail = func(ship int, f Fares) bool {
			if ship == len(k.Ships) {
				by, areSome := k.routes(f, out)
				return !areSome || yield(f, by)
			}
		voyages:
			for _, v := range voyages(k.Ships[ship]) {
				for at, r := range k.Reports {
					if out&sets.Of(at) == 0 && !IsOfLetter(r) && r.Of == ship && !k.isSo(r, v.calls) {
						continue voyages
					}
				}
				f[ship] = v.fare
				if !sail(ship+1, f) {
					return false
				}
			}
			return true
		}
		sail(0, Fares{})
	}
}

// routes returns by which ships letters can go if ships fare so, and whether not too many sink and each letter can go; the reports of a set are left out.
func (k Harbour) routes(f Fares, out int) (Routes, bool) {
	var by Routes
	if len(sets.Members(k.Sunk(f))) > k.Lost {
		return by, false
	}
	copy(by[:], k.takers)
	ships := k.bringsIf(f)
	for at, r := range k.Reports {
		if out&sets.Of(at) == 0 && IsOfLetter(r) {
			by[r.Of] &= ships[at]
		}
	}
	return by, !slices.Contains(by[:len(k.Letters)], 0)
}

// bringsIf returns by which ships letters can go because of each report, if ships fare so.
func (k Harbour) bringsIf(f Fares) brings {
	ships, known := k.brings[f]
	if known {
		return ships
	}
	for at, r := range k.Reports {
		for ship := range k.Ships {
			if IsOfLetter(r) && k.isSo(r, k.voyage(f, ship).calls) {
				ships[at] |= sets.Of(ship)
			}
		}
	}
	k.brings[f] = ships
	return ships
}

// Calls returns whether, and when, a ship calls at a port if ships fare so.
func (k Harbour) Calls(f Fares, ship, port int) Arrival { return k.voyage(f, ship).calls(port) }

// Arrivals returns when a letter can come if ships fare so.
func (k Harbour) Arrivals(f Fares, by Routes, letter int) []Arrival {
	var l []Arrival
	for _, ship := range sets.Members(by[letter]) {
		l = append(l, k.Calls(f, ship, k.Letters[letter].Port))
	}
	return l
}

// Possible reports whether there is a truth; the reports of a set are left out.
func (k Harbour) Possible(out int) bool {
	for range k.Truths(out) {
		return true
	}
	return false
}
