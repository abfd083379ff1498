package gift

import (
	"iter"
	"slices"

	"escribano/api"
	"escribano/sets"
)

// never is a day on which no gift ends any more.
const never = api.MaxGiDays

// truth is what is so behind some visits.
type truth struct {
	visits, widows int  // how many visits, and who is a widow, as bits
	left, ends     int  // how many pence are left, and the day on which the gift has ended
	pays           bool // whether the gift pays for the last one of the visits
}

// unpaid returns what is so behind one more visit for which the gift does not pay.
func (t truth) unpaid() truth {
	t.visits++
	t.pays = false
	return t
}

// written returns what is so behind one more visit, to which the person comes for a letter that costs so many pence.
func (t truth) written(l letter, fee int) truth {
	next := t.unpaid()
	if t.ends != never || t.widows&sets.Of(l.Person) == 0 {
		return next
	}
	if fee > t.left {
		next.ends = l.Day
		return next
	}
	next.left -= fee
	next.pays = true
	return next
}

// lefts says for each number of pence whether so many can be left.
type lefts [api.MaxGiPence + 1]bool

// isNone reports whether no number of pence can be left, not even 0: there is no truth.
func (l lefts) isNone() bool { return l == lefts{} }

// span returns how many pence can be left, at least and at most, or ErrZero if there is no truth.
func (l lefts) span() (api.Span, api.Errno) {
	if l.isNone() {
		return api.Span{}, api.ErrZero
	}
	pence := sets.Where(len(l), func(pence int) bool { return l[pence] })
	return api.Span{Lo: pence[0], Hi: pence[len(pence)-1]}, api.OK
}

// gift is a gift that is looked at.
type gift struct {
	api.GiFund
	letters []letter // of all visits
}

// look returns a gift without errors, by all of its entries but those of a set.
func look(f api.GiFund, out int) gift {
	k := gift{GiFund: f}
	for visit := range len(k.Visits) {
		k.letters = append(k.letters, k.letter(visit, out))
	}
	return k
}

// isTrue reports whether there is a truth: as no letter tells of another one, just then each can cost something.
func (k gift) isTrue() bool {
	return !slices.ContainsFunc(k.letters, func(l letter) bool { return len(l.fees) == 0 })
}

// people returns those who have this number of api's for whether they are widows, as bits.
func (k gift) people(widow int) int {
	return sets.Of(sets.Where(len(k.People), func(person int) bool { return k.People[person].Widow == widow })...)
}

// starts yields what is so ahead of all visits, in all truths.
func (k gift) starts() iter.Seq[truth] {
	return func(yield func(t truth) bool) {
		if !k.isTrue() {
			return
		}
		known := k.people(api.GiYes)
		for part := range sets.Parts(k.people(api.GiUnknown)) {
			if !yield(truth{widows: known | sets.Of(part...), left: k.Pence, ends: never}) {
				return
			}
		}
	}
}

// nexts yields what can be so behind one more visit.
func (k gift) nexts(t truth) iter.Seq[truth] {
	l := k.letters[t.visits]
	return func(yield func(next truth) bool) {
		if !l.comes && !yield(t.unpaid()) {
			return
		}
		for _, fee := range l.fees {
			if !yield(t.written(l, fee)) {
				return
			}
		}
	}
}

// truths yields what is so behind so many visits in all truths, each once.
func (k gift) truths(visits int) iter.Seq[truth] {
	return func(yield func(t truth) bool) {
		met := map[truth]bool{}
		var give func(t truth) bool
		give = func(t truth) bool {
			if met[t] {
				return true
			}
			met[t] = true
			if t.visits == visits {
				return yield(t)
			}
			for next := range k.nexts(t) {
				if !give(next) {
					return false
				}
			}
			return true
		}
		for start := range k.starts() {
			if !give(start) {
				return
			}
		}
	}
}

// visitsUntil returns how many visits there are until the end of a day.
func (k gift) visitsUntil(day int) int {
	return len(sets.Where(len(k.Visits), func(visit int) bool { return k.Visits[visit].Day <= day }))
}

// lefts returns how many pence can be left behind so many visits.
func (k gift) lefts(visits int) lefts {
	var l lefts
	for t := range k.truths(visits) {
		l[t.left] = true
	}
	return l
}

// lacks returns how many pence the gift lacks without the visits of a set, so that it ends in no truth.
func (k gift) lacks(out int) int {
	// there is a truth with the dearest letters of all who can be widows, as no letter tells of another one
	most := 0
	for visit, l := range k.letters {
		if out&sets.Of(visit) == 0 && k.People[l.Person].Widow != api.GiNo {
			most += slices.Max(l.fees)
		}
	}
	return max(most-k.Pence, 0)
}
