package person

import (
	"slices"

	"escribano/api"
)

// years are the years in which each person can be born.
type years [maxMentions]api.Span

// isEmpty reports whether there is no year in a span.
func isEmpty(s api.Span) bool { return s.Lo > s.Hi }

// overlap returns the years that are in both spans.
func overlap(s, o api.Span) api.Span {
	return api.Span{Lo: max(s.Lo, o.Lo), Hi: min(s.Hi, o.Hi)}
}

// areSome reports whether there are years for all persons.
func (y years) areSome() bool { return !slices.ContainsFunc(y[:], isEmpty) }

// narrow leaves a person only the years from lo to hi, and reports whether they became fewer.
func (y *years) narrow(person, lo, hi int) bool {
	was := y[person]
	y[person] = overlap(was, api.Span{Lo: lo, Hi: hi})
	return y[person] != was
}

// years returns in which years persons can be born, if they are what they are by sounds, villages and parents.
// Once no parent takes a year away any more all persons can be born in their first years, and all in their last ones: so both are years of a truth.
func (k town) years(p persons) years {
	if y, known := k.born[p]; known {
		return y
	}
	var y years
	for person := range y {
		y[person] = api.Span{Lo: 0, Hi: api.MaxPeYear}
	}
	for at, m := range k.Mentions {
		y.narrow(p[at], m.Born.Lo, m.Born.Hi)
	}
	for fewer := true; fewer && y.areSome(); {
		fewer = k.narrowByKin(p, &y)
	}
	k.born[p] = y
	return y
}

// narrowByKin leaves children and parents only the years that can be because of each other, and reports whether they became fewer.
func (k town) narrowByKin(p persons, y *years) bool {
	narrow, fewer := y.narrow, false
	for at, m := range k.Mentions {
		if m.Parent == api.PeNone {
			continue
		}
		child, parent := p[at], p[m.Parent]
		if narrow(child, y[parent].Lo+api.PeYoung, y[parent].Hi+api.PeOld) {
			fewer = true
		}
		if narrow(parent, y[child].Lo-api.PeOld, y[child].Hi-api.PeYoung) {
			fewer = true
		}
	}
	return fewer
}
