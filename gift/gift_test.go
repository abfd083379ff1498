package gift_test

import (
	"math"
	"slices"
	"strings"
	"testing"

	"escribano/api"
	"escribano/gift"
)

// wrong is one thing that is wrong with a gift: what Check returns of it.
type wrong struct {
	name     string
	change   func(f *api.GiFund)
	part, at int
	e        api.Errno
}

// pence, days, open, late and from are changes of these numbers.
func pence(n int) func(f *api.GiFund) { return func(f *api.GiFund) { f.Pence = n } }

func days(n int) func(f *api.GiFund) { return func(f *api.GiFund) { f.Days = n } }

func open(n int) func(f *api.GiFund) { return func(f *api.GiFund) { f.Open = n } }

func late(n int) func(f *api.GiFund) { return func(f *api.GiFund) { f.Late = n } }

func from(n int) func(f *api.GiFund) { return func(f *api.GiFund) { f.From = n } }

// lines is a change of the pence for a line, and people one of all people.
func lines(pence ...int) func(f *api.GiFund) { return func(f *api.GiFund) { f.Lines = pence } }

func people(l ...api.GiPerson) func(f *api.GiFund) { return func(f *api.GiFund) { f.People = l } }

// aPerson, aVisit and anEntry are changes of the person 1, of the visit 2 and of the entry 1.
func aPerson(p api.GiPerson) func(f *api.GiFund) { return func(f *api.GiFund) { f.People[1] = p } }

func aVisit(change func(v *api.GiVisit)) func(f *api.GiFund) {
	return func(f *api.GiFund) { change(&f.Visits[2]) }
}

func anEntry(visit, pence int) func(f *api.GiFund) {
	return func(f *api.GiFund) { f.Entries[1] = entry(visit, pence) }
}

// visitor, day, kind, linesOf and hour are changes of the visit 2.
func visitor(n int) func(f *api.GiFund) { return aVisit(func(v *api.GiVisit) { v.Person = n }) }

func day(n int) func(f *api.GiFund) { return aVisit(func(v *api.GiVisit) { v.Day = n }) }

func kind(n int) func(f *api.GiFund) { return aVisit(func(v *api.GiVisit) { v.Kind = n }) }

func linesOf(lo, hi int) func(f *api.GiFund) {
	return aVisit(func(v *api.GiVisit) { v.Lines = span(lo, hi) })
}

func hour(lo, hi int) func(f *api.GiFund) {
	return aVisit(func(v *api.GiVisit) { v.Hour = span(lo, hi) })
}

// moreVisits and moreEntries are changes by which there are more, which are not valid.
func moreVisits(many int) func(f *api.GiFund) {
	return func(f *api.GiFund) { f.Visits = append(f.Visits, make([]api.GiVisit, many)...) }
}

func moreEntries(many int) func(f *api.GiFund) {
	return func(f *api.GiFund) {
		f.Entries = append(f.Entries, slices.Repeat([]api.GiEntry{entry(9, -1)}, many)...)
	}
}

// wrongs returns what can be wrong, in the order of the errors.
func wrongs() []wrong {
	return []wrong{
		{"pence", pence(301), 1, 0, api.ErrRange},
		{"too many lines", lines(1, 2, 3, 10), 2, 0, api.ErrLong},
		{"line", lines(1, 10), 2, 1, api.ErrRange},
		{"too many people", people(make([]api.GiPerson, 5)...), 3, 0, api.ErrLong},
		{"name", aPerson(person("Rosa", 3)), 3, 1, api.ErrForm},
		{"name twice", aPerson(person("ana", 3)), 3, 1, api.ErrTwice},
		{"widow", aPerson(person("rosa", 3)), 3, 1, api.ErrRange},
		{"too many visits", moreVisits(2), 4, 0, api.ErrLong},
		{"visitor", visitor(3), 4, 2, api.ErrNone},
		{"hour", hour(9, 24), 4, 2, api.ErrRange},
		{"day before", day(0), 4, 2, api.ErrArg},
		{"too many entries", moreEntries(3), 5, 0, api.ErrLong},
		{"visit that is none", anEntry(4, 1000), 5, 1, api.ErrNone},
		{"entry", anEntry(3, 1000), 5, 1, api.ErrRange},
	}
}

// wrongNumbers returns what else can be wrong with numbers and lines, and what is not.
func wrongNumbers() []wrong {
	return []wrong{
		{"nothing", func(f *api.GiFund) {}, 0, 0, api.OK},
		{"zero", func(f *api.GiFund) { *f = api.GiFund{} }, 1, 0, api.ErrRange},
		{"a day and a line", func(f *api.GiFund) { *f = api.GiFund{Days: 1, Lines: []int{0}} }, 0, 0, api.OK},
		{"no pence", pence(0), 0, 0, api.OK},
		{"most pence", pence(300), 0, 0, api.OK},
		{"pence below 0", pence(-1), 1, 0, api.ErrRange},
		{"far pence", pence(math.MaxInt), 1, 0, api.ErrRange},
		{"far pence below 0", pence(math.MinInt), 1, 0, api.ErrRange},
		{"most days", days(7), 0, 0, api.OK},
		{"too many days", days(8), 1, 0, api.ErrRange},
		{"no days", days(0), 1, 0, api.ErrRange},
		{"days below 0", days(-1), 1, 0, api.ErrRange},
		{"far days", days(math.MaxInt), 1, 0, api.ErrRange},
		{"far days below 0", days(math.MinInt), 1, 0, api.ErrRange},
		{"fewer days", days(2), 4, 3, api.ErrRange},
		{"nothing to open", open(0), 0, 0, api.OK},
		{"most to open", open(9), 0, 0, api.OK},
		{"too much to open", open(10), 1, 0, api.ErrRange},
		{"open below 0", open(-1), 1, 0, api.ErrRange},
		{"far open", open(math.MaxInt), 1, 0, api.ErrRange},
		{"nothing for a late hour", late(0), 0, 0, api.OK},
		{"most for a late hour", late(9), 0, 0, api.OK},
		{"too much for a late hour", late(10), 1, 0, api.ErrRange},
		{"late below 0", late(-1), 1, 0, api.ErrRange},
		{"far late below 0", late(math.MinInt), 1, 0, api.ErrRange},
		{"from the first hour", from(0), 0, 0, api.OK},
		{"from the last hour", from(23), 0, 0, api.OK},
		{"from an hour that is none", from(24), 1, 0, api.ErrRange},
		{"from below 0", from(-1), 1, 0, api.ErrRange},
		{"far from", from(math.MaxInt), 1, 0, api.ErrRange},
		{"far from below 0", from(math.MinInt), 1, 0, api.ErrRange},
		{"no lines", lines(), 2, 0, api.ErrLong},
		{"an empty list of lines", func(f *api.GiFund) { f.Lines = []int{} }, 2, 0, api.ErrLong},
		{"one line", func(f *api.GiFund) { f.Lines, f.Visits, f.Entries = []int{1}, f.Visits[:1], nil }, 0, 0, api.OK},
		{"one line for two kinds", lines(1), 4, 1, api.ErrNone},
		{"three lines", lines(0, 9, 5), 0, 0, api.OK},
		{"four lines", lines(1, 2, 3, 4), 2, 0, api.ErrLong},
		{"first line below 0", lines(-1, 10), 2, 0, api.ErrRange},
		{"last line", lines(1, 2, math.MaxInt), 2, 2, api.ErrRange},
		{"far line below 0", lines(1, math.MinInt), 2, 1, api.ErrRange},
	}
}

// wrongPeople returns what else can be wrong with people, and what is not.
func wrongPeople() []wrong {
	four := []api.GiPerson{person("ana", 1), person("rosa", 2), person("luz", 0), person("eva", 2)}
	return []wrong{
		{"nobody", people(), 4, 0, api.ErrNone},
		{"nobody and nothing", func(f *api.GiFund) {
			f.People, f.Visits, f.Entries = []api.GiPerson{}, []api.GiVisit{}, []api.GiEntry{}
		}, 0, 0, api.OK},
		{"four people", people(four...), 0, 0, api.OK},
		{"five people", people(append(four, person("x", 0))...), 3, 0, api.ErrLong},
		{"two people", people(four[:2]...), 4, 2, api.ErrNone},
		{"no name", aPerson(person("", 2)), 3, 1, api.ErrForm},
		{"long name", aPerson(person(strings.Repeat("c", 17), 2)), 3, 1, api.ErrForm},
		{"name of 16 bytes", aPerson(person("c.23456789012345", 2)), 0, 0, api.OK},
		{"first name", func(f *api.GiFund) { f.People[0].Name = "0" }, 3, 0, api.ErrForm},
		{"first and last name", func(f *api.GiFund) { f.People[2].Name = "ana" }, 3, 2, api.ErrTwice},
		{"no widow", aPerson(person("rosa", api.GiNo)), 0, 0, api.OK},
		{"a widow", aPerson(person("rosa", api.GiYes)), 0, 0, api.OK},
		{"widow below 0", aPerson(person("rosa", -1)), 3, 1, api.ErrRange},
		{"far widow", aPerson(person("rosa", math.MaxInt)), 3, 1, api.ErrRange},
		{"far widow below 0", aPerson(person("rosa", math.MinInt)), 3, 1, api.ErrRange},
		{"first widow", func(f *api.GiFund) { f.People[0].Widow = 3 }, 3, 0, api.ErrRange},
	}
}

// wrongVisits returns what else can be wrong with visits, and what is not.
func wrongVisits() []wrong {
	return []wrong{
		{"no visits", func(f *api.GiFund) { f.Visits = nil }, 5, 0, api.ErrNone},
		{"no visits and entries", func(f *api.GiFund) { f.Visits, f.Entries = nil, nil }, 0, 0, api.OK},
		{"five visits", func(f *api.GiFund) { f.Visits = append(f.Visits, f.Visits[3]) }, 0, 0, api.OK},
		{"six visits", func(f *api.GiFund) { f.Visits = append(f.Visits, f.Visits[3], f.Visits[3]) }, 4, 0, api.ErrLong},
		{"visitor below 0", visitor(-1), 4, 2, api.ErrNone},
		{"far visitor", visitor(math.MaxInt), 4, 2, api.ErrNone},
		{"far visitor below 0", visitor(math.MinInt), 4, 2, api.ErrNone},
		{"another visitor", visitor(0), 0, 0, api.OK},
		{"kind", kind(2), 4, 2, api.ErrNone},
		{"kind below 0", kind(-1), 4, 2, api.ErrNone},
		{"far kind", kind(math.MaxInt), 4, 2, api.ErrNone},
		{"far kind below 0", kind(math.MinInt), 4, 2, api.ErrNone},
		{"another kind", kind(1), 0, 0, api.OK},
		{"a third kind", func(f *api.GiFund) { f.Lines, f.Visits[2].Kind = []int{1, 2, 3}, 2 }, 0, 0, api.OK},
		{"day behind", day(2), 0, 0, api.OK},
		{"a day that is none", day(3), 4, 2, api.ErrRange},
		{"day below 0", day(-1), 4, 2, api.ErrRange},
		{"far day", day(math.MaxInt), 4, 2, api.ErrRange},
		{"far day below 0", day(math.MinInt), 4, 2, api.ErrRange},
		{"a later day ahead", func(f *api.GiFund) { f.Visits[0].Day = 2 }, 4, 1, api.ErrArg},
		{"first day below 0", func(f *api.GiFund) { f.Visits[0].Day = -1 }, 4, 0, api.ErrRange},
		{"all visits on the last day", func(f *api.GiFund) {
			for at := range f.Visits {
				f.Visits[at].Day = 2
			}
		}, 0, 0, api.OK},
		{"all lines", linesOf(1, 8), 0, 0, api.OK},
		{"most lines", linesOf(8, 8), 0, 0, api.OK},
		{"no lines of a letter", linesOf(0, 1), 4, 2, api.ErrRange},
		{"nine lines of a letter", linesOf(8, 9), 4, 2, api.ErrRange},
		{"lines below 0", linesOf(-1, 4), 4, 2, api.ErrRange},
		{"far lines", linesOf(math.MinInt, math.MaxInt), 4, 2, api.ErrRange},
		{"far lines ahead of an end", linesOf(math.MaxInt, 1), 4, 2, api.ErrRange},
		{"no end of lines", linesOf(1, 0), 4, 2, api.ErrRange},
		{"no lines in a span", linesOf(5, 4), 4, 2, api.ErrArg},
		{"all hours", hour(0, 23), 0, 0, api.OK},
		{"first hour", hour(0, 0), 0, 0, api.OK},
		{"last hour", hour(23, 23), 0, 0, api.OK},
		{"hour below 0", hour(-1, 5), 4, 2, api.ErrRange},
		{"far hours", hour(math.MinInt, math.MaxInt), 4, 2, api.ErrRange},
		{"far hour ahead of an end", hour(24, 5), 4, 2, api.ErrRange},
		{"no hour in a span", hour(23, 0), 4, 2, api.ErrArg},
		{"hour of one before", hour(10, 9), 4, 2, api.ErrArg},
		{"not sure", aVisit(func(v *api.GiVisit) { v.Sure = false }), 0, 0, api.OK},
	}
}

// wrongEntries returns what else can be wrong with entries, and what is not.
func wrongEntries() []wrong {
	return []wrong{
		{"no entries", func(f *api.GiFund) { f.Entries = nil }, 0, 0, api.OK},
		{"four entries", func(f *api.GiFund) { f.Entries = append(f.Entries, entry(0, 6), entry(0, 6)) }, 0, 0, api.OK},
		{"five entries", func(f *api.GiFund) { f.Entries = append(f.Entries, make([]api.GiEntry, 3)...) }, 5, 0, api.ErrLong},
		{"first entry", func(f *api.GiFund) { f.Entries[0].Visit = 4 }, 5, 0, api.ErrNone},
		{"visit below 0", anEntry(-1, 15), 5, 1, api.ErrNone},
		{"far visit", anEntry(math.MaxInt, 15), 5, 1, api.ErrNone},
		{"far visit below 0", anEntry(math.MinInt, 15), 5, 1, api.ErrNone},
		{"fewer visits", func(f *api.GiFund) { f.Visits = f.Visits[:3] }, 5, 1, api.ErrNone},
		{"an entry of nothing", anEntry(3, 0), 0, 0, api.OK},
		{"most of an entry", anEntry(3, 999), 0, 0, api.OK},
		{"entry below 0", anEntry(3, -1), 5, 1, api.ErrRange},
		{"far entry", anEntry(3, math.MaxInt), 5, 1, api.ErrRange},
		{"far entry below 0", anEntry(3, math.MinInt), 5, 1, api.ErrRange},
		{"entries of one visit", anEntry(1, 8), 0, 0, api.OK},
	}
}

// P11.1: each error, which all functions return first
func TestCheckEach(t *testing.T) {
	for _, w := range slices.Concat(wrongs(), wrongNumbers(), wrongPeople(), wrongVisits(), wrongEntries()) {
		f := exampleG()
		w.change(&f)
		part, at, e := gift.Check(f)
		if part != w.part || at != w.at || e != w.e {
			t.Errorf("%s: Check = %d, %d, %d", w.name, part, at, e)
		}
		for _, number := range []int{0, -1, math.MaxInt} {
			if got := ask(f, number, number).errors; e != api.OK && got != allErrors(e) {
				t.Errorf("%s: errors %v", w.name, got)
			}
		}
	}
}

// P11.1, P1: of two errors the one that is named first, and of two things with an error the first one
func TestCheckFirst(t *testing.T) {
	all := wrongs()
	for i, w := range all {
		for _, x := range all[i+1:] {
			f := exampleG()
			x.change(&f)
			w.change(&f)
			if part, at, e := gift.Check(f); part != w.part || at != w.at || e != w.e {
				t.Errorf("%s, and %s: Check = %d, %d, %d", w.name, x.name, part, at, e)
			}
		}
	}
	for _, w := range []wrong{
		{"from and lines", func(f *api.GiFund) { f.From, f.Lines = 24, nil }, 1, 0, api.ErrRange},
		{"too many lines, one too dear", lines(10, 1, 1, 1), 2, 0, api.ErrLong},
		{"lines", lines(1, 10, -1), 2, 1, api.ErrRange},
		{"line and people", func(f *api.GiFund) { f.Lines[0], f.People = 10, make([]api.GiPerson, 9) }, 2, 0, api.ErrRange},
		{"people", people(person("ana", 3), person("", 0)), 3, 0, api.ErrRange},
		{"people of one name", people(person("ana", 1), person("ana", 3), person("", 0)), 3, 1, api.ErrTwice},
		{"person and visits", func(f *api.GiFund) { f.People[2].Widow, f.Visits = -1, make([]api.GiVisit, 9) }, 3, 2, api.ErrRange},
		{"visits", func(f *api.GiFund) { f.Visits[1].Hour, f.Visits[2].Person = span(9, 8), 3 }, 4, 1, api.ErrArg},
		{"visitor and lines", aVisit(func(v *api.GiVisit) { v.Person, v.Lines = 3, span(0, 0) }), 4, 2, api.ErrNone},
		{"kind and day", aVisit(func(v *api.GiVisit) { v.Kind, v.Day = 2, 9 }), 4, 2, api.ErrNone},
		{"kind and a day before", aVisit(func(v *api.GiVisit) { v.Kind, v.Day = 2, 0 }), 4, 2, api.ErrNone},
		{"day before and lines", aVisit(func(v *api.GiVisit) { v.Day, v.Lines = 0, span(4, 9) }), 4, 2, api.ErrRange},
		{"day before and hour", aVisit(func(v *api.GiVisit) { v.Day, v.Hour = 0, span(-1, 9) }), 4, 2, api.ErrRange},
		{"empty lines and hour", aVisit(func(v *api.GiVisit) { v.Lines, v.Hour = span(5, 4), span(3, 24) }), 4, 2, api.ErrRange},
		{"empty hour and day", aVisit(func(v *api.GiVisit) { v.Hour, v.Day = span(5, 4), 3 }), 4, 2, api.ErrRange},
		{"empty lines and a day before", aVisit(func(v *api.GiVisit) { v.Lines, v.Day = span(5, 4), 0 }), 4, 2, api.ErrArg},
		{"visit and entries", func(f *api.GiFund) { f.Visits[3].Day, f.Entries = 0, make([]api.GiEntry, 9) }, 4, 3, api.ErrArg},
		{"entries", func(f *api.GiFund) { f.Entries = []api.GiEntry{entry(0, 6), entry(1, 1000), entry(4, 0)} }, 5, 1, api.ErrRange},
		{"a visit that is none, and pence", anEntry(4, -1), 5, 1, api.ErrNone},
	} {
		f := exampleG()
		w.change(&f)
		if part, at, e := gift.Check(f); part != w.part || at != w.at || e != w.e {
			t.Errorf("%s: Check = %d, %d, %d", w.name, part, at, e)
		}
	}
}

// P11.2 to P11.6, P1: the errors behind that of Check, in their order
func TestErrors(t *testing.T) {
	const no, far, zero, down = api.ErrNone, api.ErrRange, api.ErrZero, api.ErrDown
	enough := richer(exampleF(), 6)
	empty := api.GiFund{Days: 1, Lines: []int{9}}
	never := with(plain(9, may(ana, 6, 1, 2)), entry(0, 3))
	for i, q := range []struct {
		f          api.GiFund
		visit, day int
		want       [7]api.Errno
	}{
		{exampleF(), 0, 0, [7]api.Errno{}},
		{exampleF(), 3, 2, [7]api.Errno{}},
		{exampleK(), 3, 2, [7]api.Errno{}},
		{exampleF(), 4, 0, [7]api.Errno{0: no, 2: no}},
		{exampleF(), -1, 0, [7]api.Errno{0: no, 2: no}},
		{exampleF(), math.MaxInt, 0, [7]api.Errno{0: no, 2: no}},
		{exampleF(), math.MinInt, 0, [7]api.Errno{0: no, 2: no}},
		{exampleF(), 0, 3, [7]api.Errno{1: far}},
		{exampleF(), 0, -1, [7]api.Errno{1: far}},
		{exampleF(), 0, math.MaxInt, [7]api.Errno{1: far}},
		{exampleF(), 0, math.MinInt, [7]api.Errno{1: far}},
		// three days, four visits
		{exampleF(), 3, 3, [7]api.Errno{1: far}},
		{exampleF(), 4, 4, [7]api.Errno{0: no, 1: far, 2: no}},
		// it ends in no truth
		{enough, 0, 0, [7]api.Errno{3: down}},
		{enough, 4, 3, [7]api.Errno{0: no, 1: far, 2: no, 3: down}},
		{empty, 0, 0, [7]api.Errno{0: no, 2: no, 3: down}},
		{empty, 0, 1, [7]api.Errno{0: no, 1: far, 2: no, 3: down}},
		// no truth, but one without an entry; what is no index, or no day, comes ahead of that
		{exampleG(), 0, 0, [7]api.Errno{zero, zero, zero, zero, zero, zero, 0}},
		{exampleG(), 3, 2, [7]api.Errno{zero, zero, zero, zero, zero, zero, 0}},
		{exampleG(), 4, 0, [7]api.Errno{no, zero, no, zero, zero, zero, 0}},
		{exampleG(), 0, 3, [7]api.Errno{zero, far, zero, zero, zero, zero, 0}},
		{exampleG(), -1, -1, [7]api.Errno{no, far, no, zero, zero, zero, 0}},
		// no truth by an entry of a visit behind all that is asked for
		{with(exampleF(), entry(3, 14)), 0, 0, [7]api.Errno{zero, zero, zero, zero, zero, zero, 0}},
		{never, 0, 0, [7]api.Errno{zero, zero, zero, zero, zero, zero, 0}},
		{with(enough, entry(0, 6), entry(0, 7)), 1, 1, [7]api.Errno{zero, zero, zero, zero, zero, zero, 0}},
	} {
		if got := ask(q.f, q.visit, q.day).errors; got != q.want {
			t.Errorf("%d: errors %v", i, got)
		}
	}
}

// P11.2 to P11.6, R2: with an error every other result is its zero value
func TestZeroWithError(t *testing.T) {
	bad := exampleF()
	bad.Visits[3].Day = 0
	seen := [7]bool{}
	for i, q := range []struct {
		f          api.GiFund
		visit, day int
	}{{bad, 1, 1}, {exampleF(), 4, 3}, {exampleG(), 1, 1}, {richer(exampleF(), 6), 0, 0}} {
		a := ask(q.f, q.visit, q.day)
		for at, isZero := range a.areZero() {
			seen[at] = seen[at] || a.errors[at] != api.OK
			if a.errors[at] != api.OK && !isZero {
				t.Errorf("%d: %+v", i, a)
			}
		}
	}
	if seen != [7]bool{true, true, true, true, true, true, true} {
		t.Errorf("errors %v only", seen)
	}
}

// P11.2
func TestFees(t *testing.T) {
	f := api.GiFund{Days: 1, Open: 3, Late: 4, From: 12, Lines: []int{2, 0, 9}, People: []api.GiPerson{person("ana", 0)}}
	letter := func(kind, lo, hi, first, last int) api.GiFund {
		f.Visits = []api.GiVisit{{Kind: kind, Lines: span(lo, hi), Hour: span(first, last)}}
		return f
	}
	free := letter(0, 1, 8, 0, 23)
	free.Open, free.Late, free.Lines = 0, 0, []int{0}
	first, last := letter(0, 1, 2, 0, 22), letter(0, 1, 2, 22, 23)
	first.From, last.From = 0, 23
	dear := letter(2, 1, 8, 0, 23)
	dear.Open, dear.Late = 9, 9
	for i, q := range []struct {
		f    api.GiFund
		want []int
	}{
		{letter(0, 1, 1, 11, 11), []int{5}},
		{letter(0, 1, 1, 12, 12), []int{9}},
		{letter(0, 1, 1, 13, 23), []int{9}},
		{letter(0, 1, 1, 0, 11), []int{5}},
		{letter(0, 1, 1, 11, 12), []int{5, 9}},
		{letter(0, 8, 8, 3, 20), []int{19, 23}},
		{letter(0, 2, 4, 11, 11), []int{7, 9, 11}},
		// a letter of more lines costs as much as a late one
		{letter(0, 2, 4, 11, 12), []int{7, 9, 11, 13, 15}},
		{letter(1, 1, 8, 11, 11), []int{3}},
		{letter(1, 1, 8, 11, 12), []int{3, 7}},
		{letter(2, 1, 2, 11, 12), []int{12, 16, 21, 25}},
		{free, []int{0}},
		{first, []int{9, 11}},
		{last, []int{5, 7, 9, 11}},
		{dear, []int{18, 27, 36, 45, 54, 63, 72, 81, 90}},
		// with entries, which need not be one only
		{with(letter(0, 2, 4, 11, 12), entry(0, 9)), []int{9}},
		{with(letter(0, 2, 4, 11, 12), entry(0, 15), entry(0, 15)), []int{15}},
	} {
		if l := must[[]int](t)(gift.Fees(q.f, 0)); !slices.Equal(l, q.want) {
			t.Errorf("%d: Fees = %v", i, l)
		}
	}
	// the visit is the one that is asked for, and who comes is nothing to the letter
	f = with(plain(3, comes(luz, 0, 1, 2), may(ana, 0, 3, 4), may(eva, 6, 5, 7)), entry(1, 4))
	if l := feesOf(t, f); !slices.EqualFunc(l, [][]int{{1, 2}, {4}, {5, 6, 7}}, slices.Equal) {
		t.Errorf("Fees = %v", l)
	}
}

// P11.3
func TestLeft(t *testing.T) {
	kinds := plain(20, comes(ana, 0, 1, 1), comes(ana, 2, 2, 2))
	kinds.Visits[1].Kind = 1
	for i, q := range []struct {
		f    api.GiFund
		want []api.Span // behind the first days; all others are as the last one of these
	}{
		{plain(0), []api.Span{span(0, 0)}},
		{plain(300), []api.Span{span(300, 300)}},
		{plain(9, comes(ana, 0, 4, 4)), []api.Span{span(5, 5)}},
		{plain(9, comes(ana, 1, 4, 4)), []api.Span{span(9, 9), span(5, 5)}},
		{plain(9, comes(ana, 6, 4, 4)), []api.Span{span(9, 9), span(9, 9), span(9, 9), span(9, 9), span(9, 9), span(9, 9), span(5, 5)}},
		{plain(9, comes(ana, 0, 2, 4)), []api.Span{span(5, 7)}},
		{plain(9, may(ana, 0, 4, 4)), []api.Span{span(5, 9)}},
		{plain(9, comes(rosa, 0, 4, 4)), []api.Span{span(5, 9)}},
		{plain(9, comes(luz, 0, 4, 4)), []api.Span{span(9, 9)}},
		// the last penny, and more than is left
		{plain(4, comes(ana, 0, 4, 4)), []api.Span{span(0, 0)}},
		{plain(3, comes(ana, 0, 4, 4)), []api.Span{span(3, 3)}},
		{plain(3, comes(ana, 0, 2, 4)), []api.Span{span(0, 3)}},
		{plain(3, comes(ana, 0, 3, 4)), []api.Span{span(0, 3)}},
		{plain(4, comes(ana, 0, 3, 5)), []api.Span{span(0, 4)}},
		// several visits on a day
		{plain(20, comes(ana, 0, 4, 4), comes(ana, 0, 5, 5), comes(ana, 1, 6, 6)), []api.Span{span(11, 11), span(5, 5)}},
		{plain(20, comes(ana, 1, 4, 4), comes(luz, 1, 5, 5), comes(ana, 1, 6, 6)), []api.Span{span(20, 20), span(10, 10)}},
		{kinds, []api.Span{span(19, 19), span(19, 19), span(9, 9)}},
		// behind its end it pays for nothing, not even for what it could pay
		{plain(9, comes(ana, 0, 4, 4), comes(ana, 1, 6, 6), comes(ana, 2, 1, 1)), []api.Span{span(5, 5)}},
		{plain(9, comes(ana, 0, 4, 4), comes(ana, 1, 5, 6), comes(ana, 2, 1, 1)), []api.Span{span(5, 5), span(0, 5)}},
		{plain(9, comes(ana, 0, 4, 4), may(ana, 1, 6, 6), comes(ana, 2, 1, 1)), []api.Span{span(5, 5), span(5, 5), span(4, 5)}},
		{plain(5, comes(ana, 0, 6, 6), comes(ana, 0, 5, 5)), []api.Span{span(5, 5)}},
		// who is a widow at one visit is one at the other one, too
		{plain(20, comes(rosa, 0, 4, 4), comes(rosa, 1, 5, 5)), []api.Span{span(16, 20), span(11, 20)}},
		{plain(6, comes(rosa, 0, 4, 4), comes(rosa, 1, 5, 5)), []api.Span{span(2, 6)}},
		{plain(6, comes(rosa, 0, 4, 4), comes(eva, 1, 5, 5)), []api.Span{span(2, 6), span(1, 6)}},
		// entries
		{with(plain(9, may(ana, 0, 2, 6)), entry(0, 5)), []api.Span{span(4, 4)}},
		{with(plain(9, comes(rosa, 0, 2, 6)), entry(0, 5)), []api.Span{span(4, 9)}},
		{with(plain(9, comes(ana, 0, 2, 6), may(ana, 2, 1, 8)), entry(1, 7)), []api.Span{span(3, 7), span(3, 7), span(0, 6)}},
	} {
		for day, got := range leftOf(t, q.f) {
			if want := q.want[min(day, len(q.want)-1)]; got != want {
				t.Errorf("%d: Left of %d = %v", i, day, got)
			}
		}
	}
}

// P11.3
func TestPays(t *testing.T) {
	const all, some, none = api.Must, api.May, api.Never
	free := plain(0, comes(ana, 0, 8, 8), may(ana, 1, 1, 1), comes(rosa, 2, 1, 1), comes(luz, 3, 1, 1))
	free.Lines = []int{0}
	nothing := plain(0, comes(ana, 0, 1, 1), comes(ana, 1, 1, 1))
	nothing.Lines, nothing.Visits[1].Kind = []int{1, 0}, 1
	for i, q := range []struct {
		f    api.GiFund
		want []int
	}{
		{plain(9, comes(ana, 0, 4, 4)), []int{all}},
		{plain(9, comes(ana, 0, 1, 8)), []int{all}},
		{plain(9, may(ana, 0, 4, 4)), []int{some}},
		{plain(9, comes(rosa, 0, 4, 4)), []int{some}},
		{plain(9, comes(luz, 0, 4, 4)), []int{none}},
		{plain(9, may(luz, 0, 4, 4)), []int{none}},
		{plain(4, comes(ana, 0, 4, 4)), []int{all}},
		{plain(3, comes(ana, 0, 4, 4)), []int{none}},
		{plain(3, comes(ana, 0, 3, 4)), []int{some}},
		{plain(3, may(ana, 0, 4, 4)), []int{none}},
		{plain(9, comes(ana, 0, 4, 4), comes(ana, 0, 5, 5)), []int{all, all}},
		{plain(8, comes(ana, 0, 4, 4), comes(ana, 0, 5, 5)), []int{all, none}},
		{plain(8, comes(ana, 0, 3, 4), comes(ana, 0, 5, 5)), []int{all, some}},
		{plain(8, comes(ana, 0, 3, 4), comes(ana, 0, 5, 5), comes(ana, 0, 1, 1)), []int{all, some, none}},
		{plain(9, comes(ana, 0, 3, 4), comes(ana, 0, 5, 5), comes(ana, 0, 1, 1)), []int{all, all, some}},
		{plain(8, comes(ana, 0, 4, 4), comes(luz, 0, 5, 5), comes(ana, 6, 4, 4)), []int{all, none, all}},
		// behind its end
		{plain(8, comes(ana, 0, 4, 4), comes(ana, 0, 5, 5), comes(ana, 1, 1, 1)), []int{all, none, none}},
		{plain(8, comes(ana, 0, 4, 4), may(ana, 0, 5, 5), comes(ana, 1, 1, 1)), []int{all, none, some}},
		{plain(8, comes(ana, 0, 4, 4), comes(rosa, 0, 5, 5), comes(ana, 1, 1, 1)), []int{all, none, some}},
		{plain(8, comes(rosa, 0, 4, 4), comes(rosa, 0, 5, 5), comes(ana, 1, 8, 8)), []int{some, none, some}},
		{plain(8, comes(rosa, 0, 4, 4), comes(eva, 0, 5, 5), comes(ana, 1, 8, 8)), []int{some, some, some}},
		// the same widow: if the letters cost 4 and 5 the gift has ended ahead of the third one, if she is none it pays for ana's
		{plain(4, comes(rosa, 0, 4, 4), comes(ana, 1, 1, 1), comes(rosa, 2, 1, 1)), []int{some, some, none}},
		{plain(5, comes(rosa, 0, 4, 4), comes(ana, 1, 1, 1), comes(rosa, 2, 1, 1)), []int{some, all, none}},
		// what costs nothing can be paid, but not behind its end
		{free, []int{all, some, some, none}},
		{nothing, []int{none, none}},
		// entries
		{with(plain(9, may(ana, 0, 4, 4)), entry(0, 4)), []int{all}},
		{with(plain(9, may(rosa, 0, 4, 4)), entry(0, 4)), []int{some}},
		{with(plain(9, may(luz, 0, 4, 4)), entry(0, 4)), []int{none}},
		{with(plain(4, comes(ana, 0, 3, 6)), entry(0, 4)), []int{all}},
		{with(plain(4, comes(ana, 0, 3, 6)), entry(0, 5)), []int{none}},
		{with(plain(8, comes(ana, 0, 3, 6), comes(ana, 0, 5, 5)), entry(0, 3)), []int{all, all}},
	} {
		if l := paysOf(t, q.f); !slices.Equal(l, q.want) {
			t.Errorf("%d: Pays = %v", i, l)
		}
	}
}

// P11.4
func TestEndsAndNeed(t *testing.T) {
	dear := plain(300)
	dear.Open, dear.Late, dear.Lines = 9, 9, []int{9}
	for range api.MaxGiVisits {
		dear.Visits = append(dear.Visits, api.GiVisit{Person: rosa, Day: 3, Lines: span(1, 8), Hour: span(0, 23)})
	}
	free := dear
	free.Pence, free.Open, free.Late, free.Lines = 0, 0, 0, []int{0}
	for i, q := range []struct {
		f          api.GiFund
		ends, need int
	}{
		{plain(0), never, 0},
		{plain(0, comes(luz, 0, 8, 8)), never, 0},
		{plain(0, comes(ana, 0, 1, 1)), 0, 1},
		{plain(0, may(ana, 3, 1, 8)), 3, 8},
		{plain(0, may(eva, 3, 1, 8)), 3, 8},
		{plain(8, may(eva, 3, 1, 8)), never, 0},
		{plain(7, may(eva, 3, 1, 8)), 3, 1},
		{plain(8, comes(ana, 0, 4, 4), comes(ana, 5, 4, 4)), never, 0},
		{plain(7, comes(ana, 0, 4, 4), comes(ana, 5, 4, 4)), 5, 1},
		{plain(4, comes(ana, 0, 4, 4), comes(ana, 5, 4, 4)), 5, 4},
		{plain(3, comes(ana, 0, 4, 4), comes(ana, 5, 4, 4)), 0, 5},
		{plain(7, comes(ana, 0, 3, 4), comes(ana, 5, 2, 4)), 5, 1},
		{plain(10, comes(ana, 0, 4, 4), comes(luz, 0, 8, 8), comes(rosa, 1, 4, 4), may(eva, 2, 1, 4)), 2, 2},
		// the letters behind its end count for what it needs
		{plain(1, comes(ana, 0, 4, 4), comes(ana, 1, 4, 4), comes(ana, 2, 1, 3)), 0, 10},
		// entries
		{with(plain(4, comes(ana, 0, 3, 6)), entry(0, 4)), never, 0},
		{with(plain(4, comes(ana, 0, 3, 6)), entry(0, 5)), 0, 1},
		{with(plain(7, comes(ana, 0, 4, 4), may(ana, 5, 1, 8)), entry(1, 3)), never, 0},
		// much more than there can be
		{dear, 3, 150},
		{richer(dear, -300), 3, 450},
		{free, never, 0},
	} {
		if day, more := endsOf(t, q.f), must[int](t)(gift.Need(q.f)); day != q.ends || more != q.need {
			t.Errorf("%d: Ends = %d, Need = %d", i, day, more)
		}
	}
}

// P11.5
func TestRefuse(t *testing.T) {
	for i, q := range []struct {
		f    api.GiFund
		want []int
	}{
		{plain(0), nil},
		{plain(0, comes(luz, 0, 8, 8)), nil},
		{plain(8, comes(ana, 0, 4, 4), comes(ana, 0, 4, 4)), nil},
		{plain(0, comes(ana, 0, 1, 1)), []int{0}},
		{plain(0, may(rosa, 0, 1, 1)), []int{0}},
		{plain(0, comes(luz, 0, 1, 1), may(rosa, 0, 1, 1), comes(luz, 0, 1, 1), comes(ana, 1, 1, 1)), []int{1, 3}},
		// of as many the first one that is enough
		{plain(7, comes(ana, 0, 4, 4), comes(ana, 0, 4, 4)), []int{0}},
		{plain(7, comes(ana, 0, 1, 1), comes(ana, 0, 3, 3), comes(ana, 0, 4, 4)), []int{0}},
		{plain(7, comes(ana, 0, 1, 1), comes(ana, 0, 3, 3), comes(ana, 0, 5, 5)), []int{1}},
		{plain(7, comes(ana, 0, 1, 1), comes(ana, 0, 2, 2), comes(ana, 0, 7, 7)), []int{2}},
		{plain(7, comes(ana, 0, 1, 1), comes(luz, 0, 8, 8), comes(ana, 0, 2, 2), comes(ana, 0, 7, 7)), []int{3}},
		// the fewest, not the first ones that come
		{plain(8, comes(ana, 0, 2, 2), comes(ana, 0, 2, 2), comes(ana, 0, 2, 2), comes(ana, 0, 8, 8)), []int{3}},
		{plain(8, comes(ana, 0, 5, 5), comes(ana, 0, 4, 4), comes(ana, 0, 5, 5), comes(ana, 0, 4, 4)), []int{0, 2}},
		{plain(9, comes(ana, 0, 5, 5), comes(ana, 0, 4, 4), comes(ana, 0, 5, 5), comes(ana, 0, 4, 4)), []int{0, 1}},
		{plain(4, comes(ana, 0, 4, 4), may(ana, 1, 1, 5), comes(rosa, 2, 4, 4), may(eva, 3, 1, 4)), []int{0, 1, 2}},
		{plain(0, comes(ana, 0, 1, 1), comes(ana, 0, 1, 1), comes(ana, 0, 1, 1), comes(ana, 0, 1, 1), comes(ana, 0, 1, 1)), []int{0, 1, 2, 3, 4}},
		// with their entries
		{with(plain(7, comes(ana, 0, 1, 4), comes(ana, 0, 4, 4)), entry(0, 3)), nil},
		{with(plain(6, comes(ana, 0, 1, 4), comes(ana, 0, 4, 4)), entry(0, 3)), []int{0}},
		{with(plain(3, comes(ana, 0, 1, 4), comes(ana, 0, 4, 4)), entry(0, 3)), []int{1}},
		{with(plain(2, comes(ana, 0, 1, 4), may(ana, 0, 1, 4)), entry(1, 1), entry(0, 3), entry(0, 3)), []int{0}},
	} {
		if l := must[[]int](t)(gift.Refuse(q.f)); !slices.Equal(l, q.want) {
			t.Errorf("%d: Refuse = %v", i, l)
		}
	}
}

// P11.6
func TestWrong(t *testing.T) {
	f := plain(0, comes(ana, 0, 1, 4), may(luz, 1, 3, 5), comes(rosa, 2, 2, 2))
	late := f
	late.Late, late.From = 9, 0
	for i, q := range []struct {
		f    api.GiFund
		want []int
	}{
		{plain(0), nil},
		{f, nil},
		{with(f, entry(0, 4), entry(1, 3), entry(2, 2), entry(0, 4)), nil},
		{with(f, entry(0, 0)), []int{0}},
		{with(f, entry(0, 5)), []int{0}},
		{with(f, entry(0, 999)), []int{0}},
		{with(f, entry(2, 2), entry(1, 2)), []int{1}},
		{with(f, entry(1, 6), entry(2, 2), entry(2, 3)), []int{0, 2}},
		// two entries of one letter
		{with(f, entry(0, 1), entry(0, 2)), []int{0}},
		{with(f, entry(0, 1), entry(0, 2), entry(0, 2)), []int{0}},
		{with(f, entry(0, 1), entry(0, 2), entry(0, 1)), []int{1}},
		{with(f, entry(0, 1), entry(0, 2), entry(0, 5)), []int{0, 2}},
		{with(f, entry(0, 5), entry(0, 2), entry(0, 5)), []int{0, 2}},
		{with(f, entry(0, 1), entry(0, 2), entry(0, 3), entry(0, 4)), []int{0, 1, 2}},
		{with(f, entry(0, 1), entry(1, 3), entry(1, 4), entry(0, 2)), []int{0, 1}},
		{with(f, entry(0, 1), entry(1, 3), entry(0, 2), entry(1, 4)), []int{0, 1}},
		{with(f, entry(0, 9), entry(1, 9), entry(2, 9), entry(0, 8)), []int{0, 1, 2, 3}},
		{with(f, entry(0, 1), entry(1, 3), entry(2, 2), entry(2, 0)), []int{3}},
		// a late hour
		{with(late, entry(2, 2), entry(2, 11)), []int{0}},
	} {
		if l := must[[]int](t)(gift.Wrong(q.f)); !slices.Equal(l, q.want) {
			t.Errorf("%d: Wrong = %v", i, l)
		}
	}
}

// the chapter's examples
func TestExamples(t *testing.T) {
	f, k := exampleF(), exampleK()
	if l := feesOf(t, f); !slices.EqualFunc(l, [][]int{{6, 7, 8}, {8, 10, 11, 13}, {3}, {15}}, slices.Equal) {
		t.Errorf("Fees = %v", l)
	}
	if l := leftOf(t, f); !slices.Equal(l, []api.Span{span(22, 24), span(9, 24), span(0, 24)}) {
		t.Errorf("Left = %v", l)
	}
	if l := paysOf(t, f); !slices.Equal(l, []int{api.Must, api.May, api.Never, api.May}) {
		t.Errorf("Pays = %v", l)
	}
	if day, more := endsOf(t, f), must[int](t)(gift.Need(f)); day != 2 || more != 6 {
		t.Errorf("Ends = %d, Need = %d", day, more)
	}
	if l := must[[]int](t)(gift.Refuse(f)); !slices.Equal(l, []int{0}) {
		t.Errorf("Refuse = %v", l)
	}
	one, two := must[[]int](t)(gift.Wrong(f)), must[[]int](t)(gift.Wrong(exampleG()))
	if len(one) != 0 || !slices.Equal(two, []int{0}) {
		t.Errorf("Wrong = %v, %v", one, two)
	}
	if s := must[api.Span](t)(gift.Left(k, 2)); s != span(0, 14) {
		t.Errorf("Left = %v", s)
	}
}
