package gift

import (
	"escribano/api"
	"escribano/check"
	"escribano/names"
)

// part is a part of a gift, which tells the first thing in it with an error, and this error.
type part struct {
	firstError func() (at int, e api.Errno)
}

// parts returns the parts of a gift, in the order of their numbers: each one can take those ahead of it for granted.
func parts(f api.GiFund) []part {
	k := gift{GiFund: f}
	return []part{
		{func() (int, api.Errno) { return 0, k.numbersError() }},
		{k.linesError},
		{func() (int, api.Errno) { return check.List(api.MaxGiPeople, k.People, personError) }},
		{func() (int, api.Errno) { return check.List(api.MaxGiVisits, k.Visits, k.visitError) }},
		{func() (int, api.Errno) { return check.List(api.MaxGiEntries, k.Entries, k.entryError) }},
	}
}

// numbersError returns the error of the numbers of a gift.
func (k gift) numbersError() api.Errno {
	if !check.Within(0, api.MaxGiPence, k.Pence) || !check.Within(1, api.MaxGiDays, k.Days) ||
		!check.Within(0, api.MaxGiFee, k.Open, k.Late) || !check.Within(0, api.MaxGiHour, k.From) {
		return api.ErrRange
	}
	return api.OK
}

// linesError returns the first kind whose pence for a line have an error, and this error.
func (k gift) linesError() (int, api.Errno) {
	if len(k.Lines) == 0 {
		return 0, api.ErrLong
	}
	return check.List(api.MaxGiKinds, k.Lines, func(_ []int, pence int) api.Errno {
		if !check.Within(0, api.MaxGiFee, pence) {
			return api.ErrRange
		}
		return api.OK
	})
}

// personError returns the error of a person.
func personError(before []api.GiPerson, p api.GiPerson) api.Errno {
	if e := names.Error(before, p, func(p api.GiPerson) string { return p.Name }); e != api.OK {
		return e
	}
	if !check.Within(api.GiNo, api.GiUnknown, p.Widow) {
		return api.ErrRange
	}
	return api.OK
}

// visitError returns the error of a visit.
func (k gift) visitError(before []api.GiVisit, v api.GiVisit) api.Errno {
	if !check.Within(0, len(k.People)-1, v.Person) || !check.Within(0, len(k.Lines)-1, v.Kind) {
		return api.ErrNone
	}
	if !check.Within(0, k.Days-1, v.Day) || !check.Within(1, api.MaxGiLines, v.Lines.Lo, v.Lines.Hi) || !check.Within(0, api.MaxGiHour, v.Hour.Lo, v.Hour.Hi) {
		return api.ErrRange
	}
	if v.Lines.Lo > v.Lines.Hi || v.Hour.Lo > v.Hour.Hi || len(before) > 0 && v.Day < before[len(before)-1].Day {
		return api.ErrArg
	}
	return api.OK
}

// entryError returns the error of an entry.
func (k gift) entryError(_ []api.GiEntry, x api.GiEntry) api.Errno {
	if !check.Within(0, len(k.Visits)-1, x.Visit) {
		return api.ErrNone
	}
	if !check.Within(0, api.MaxGiEntry, x.Pence) {
		return api.ErrRange
	}
	return api.OK
}

// open returns the gift, and its error: that of Check, then that of the first argument with one.
func open(f api.GiFund, arguments ...check.Argument) (gift, api.Errno) {
	if _, _, e := Check(f); e != api.OK {
		return gift{}, e
	}
	if e := check.Arguments(arguments...); e != api.OK {
		return gift{}, e
	}
	return look(f, 0), api.OK
}

// openTrue is open, with the error that there is no truth behind it.
func openTrue(f api.GiFund, arguments ...check.Argument) (gift, api.Errno) {
	k, e := open(f, arguments...)
	if e == api.OK && !k.isTrue() {
		return gift{}, api.ErrZero
	}
	return k, e
}
