package gift

import (
	"slices"

	"escribano/api"
	"escribano/sets"
)

// tariff is what letters of a kind cost: pence for each, for each of its lines, and from which hour on how many more.
type tariff struct{ open, line, from, late int }

// tariff returns what letters of a kind cost.
func (k gift) tariff(kind int) tariff { return tariff{k.Open, k.Lines[kind], k.From, k.Late} }

// cost returns what a letter of so many lines costs at an hour.
func (t tariff) cost(lines, hour int) int {
	pence := t.open + lines*t.line
	if hour >= t.from {
		pence += t.late
	}
	return pence
}

// letter is the letter of a visit that is looked at.
type letter struct {
	api.GiVisit
	tariff
	fees  []int // what it can cost, ascending; none if its entries are of no truth
	comes bool  // whether the person surely comes
}

// letter returns the letter of a visit, by all of its entries but those of a set.
func (k gift) letter(visit, out int) letter {
	v := k.Visits[visit]
	l := letter{GiVisit: v, tariff: k.tariff(v.Kind), comes: v.Sure}
	l.fees = l.allFees()
	for at, x := range k.Entries {
		if x.Visit == visit && out&sets.Of(at) == 0 {
			l = l.entered(x.Pence)
		}
	}
	return l
}

// costs yields what the letter can cost with each number of its lines, and at each of its hours.
func (l letter) costs(yield func(pence int) bool) {
	for lines := l.Lines.Lo; lines <= l.Lines.Hi; lines++ {
		for hour := l.Hour.Lo; hour <= l.Hour.Hi; hour++ {
			if !yield(l.cost(lines, hour)) {
				return
			}
		}
	}
}

// allFees returns what the letter can cost without any entry, ascending.
func (l letter) allFees() []int {
	var fees []int
costs:
	for pence := range l.costs {
		for _, fee := range fees {
			if fee == pence {
				continue costs
			}
		}
		fees = append(fees, pence)
	}
	slices.Sort(fees)
	return fees
}

// entered returns the letter with an entry of so many pence.
func (l letter) entered(pence int) letter {
	l.comes = true
	l.fees = slices.DeleteFunc(slices.Clone(l.fees), func(fee int) bool { return fee != pence })
	return l
}
