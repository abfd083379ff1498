package gift_test

import (
	"iter"
	"math/rand/v2"
	"slices"
	"testing"

	"escribano/api"
	"escribano/gift"
)

// never is what the tests write for a day with ErrDown.
const never = -1

// Who people are in the tests: ana is a widow, rosa and eva may be, luz is none.
const (
	ana = iota
	rosa
	luz
	eva
)

// span is a span.
func span(lo, hi int) api.Span { return api.Span{Lo: lo, Hi: hi} }

// person is a person, and entry an entry.
func person(name string, widow int) api.GiPerson { return api.GiPerson{Name: name, Widow: widow} }

func entry(visit, pence int) api.GiEntry { return api.GiEntry{Visit: visit, Pence: pence} }

// example is F of the document's examples, with entries.
func example(entries ...api.GiEntry) api.GiFund {
	return api.GiFund{
		Pence: 30, Days: 3, Open: 2, Late: 3, From: 18, Lines: []int{1, 2},
		People: []api.GiPerson{person("ana", api.GiYes), person("rosa", api.GiUnknown), person("luz", api.GiNo)},
		Visits: []api.GiVisit{
			{Person: ana, Day: 0, Kind: 0, Lines: span(4, 6), Hour: span(10, 10), Sure: true},
			{Person: rosa, Day: 1, Kind: 1, Lines: span(3, 4), Hour: span(17, 18), Sure: true},
			{Person: luz, Day: 1, Kind: 0, Lines: span(1, 1), Hour: span(9, 9), Sure: true},
			{Person: ana, Day: 2, Kind: 1, Lines: span(5, 5), Hour: span(20, 20)},
		},
		Entries: entries,
	}
}

// exampleF, exampleG and exampleK are F, G and K of the document's examples.
func exampleF() api.GiFund { return example() }
func exampleG() api.GiFund { return example(entry(1, 9), entry(3, 15)) }
func exampleK() api.GiFund { return example(entry(3, 15)) }

// comes and may are visits on a day: somebody surely comes, or perhaps, with a letter of so many lines, which cost a penny each.
func comes(person, day, lo, hi int) api.GiVisit {
	return api.GiVisit{Person: person, Day: day, Lines: span(lo, hi), Sure: true}
}

func may(person, day, lo, hi int) api.GiVisit {
	v := comes(person, day, lo, hi)
	v.Sure = false
	return v
}

// plain is a gift of some pence, where a line costs a penny, or 5 if the letter is of the kind 1, and nothing else costs anything.
func plain(pence int, visits ...api.GiVisit) api.GiFund {
	return api.GiFund{
		Pence: pence, Days: api.MaxGiDays, Lines: []int{1, 5}, Visits: visits,
		People: []api.GiPerson{person("ana", api.GiYes), person("rosa", api.GiUnknown), person("luz", api.GiNo), person("eva", api.GiUnknown)},
	}
}

// with is a gift with more entries, and without one without some of them.
func with(f api.GiFund, more ...api.GiEntry) api.GiFund {
	f.Entries = slices.Concat(f.Entries, more)
	return f
}

func without(f api.GiFund, out ...int) api.GiFund {
	var left []api.GiEntry
	for at, x := range f.Entries {
		if !slices.Contains(out, at) {
			left = append(left, x)
		}
	}
	f.Entries = left
	return f
}

// refused is a gift without some visits, and without the entries of them.
func refused(f api.GiFund, out []int) api.GiFund {
	var visits []api.GiVisit
	var entries []api.GiEntry
	for visit, v := range f.Visits {
		if slices.Contains(out, visit) {
			continue
		}
		for _, x := range f.Entries {
			if x.Visit == visit {
				entries = append(entries, entry(len(visits), x.Pence))
			}
		}
		visits = append(visits, v)
	}
	f.Visits, f.Entries = visits, entries
	return f
}

// richer is a gift of more pence.
func richer(f api.GiFund, pence int) api.GiFund {
	f.Pence += pence
	return f
}

// cloned is a gift that shares no memory with f; sameFund reports whether two gifts are equal.
func cloned(f api.GiFund) api.GiFund {
	f.Lines, f.People, f.Visits, f.Entries = slices.Clone(f.Lines), slices.Clone(f.People), slices.Clone(f.Visits), slices.Clone(f.Entries)
	return f
}

func sameFund(a, b api.GiFund) bool {
	return a.Pence == b.Pence && a.Days == b.Days && a.Open == b.Open && a.Late == b.Late && a.From == b.From && slices.Equal(a.Lines, b.Lines) &&
		slices.Equal(a.People, b.People) && slices.Equal(a.Visits, b.Visits) && slices.Equal(a.Entries, b.Entries)
}

// answers are what all functions but Check return of a visit and a day.
type answers struct {
	fees, refuse, wrong []int
	left                api.Span
	pays, ends, need    int
	errors              [7]api.Errno
}

// ask asks all functions but Check.
func ask(f api.GiFund, visit, day int) answers {
	var a answers
	a.fees, a.errors[0] = gift.Fees(f, visit)
	a.left, a.errors[1] = gift.Left(f, day)
	a.pays, a.errors[2] = gift.Pays(f, visit)
	a.ends, a.errors[3] = gift.Ends(f)
	a.need, a.errors[4] = gift.Need(f)
	a.refuse, a.errors[5] = gift.Refuse(f)
	a.wrong, a.errors[6] = gift.Wrong(f)
	return a
}

// areZero reports for each answer whether it is the zero value.
func (a answers) areZero() [7]bool {
	return [7]bool{len(a.fees) == 0, a.left == api.Span{}, a.pays == 0, a.ends == 0, a.need == 0, len(a.refuse) == 0, len(a.wrong) == 0}
}

// same reports whether two answers are equal.
func (a answers) same(b answers) bool {
	return slices.Equal(a.fees, b.fees) && slices.Equal(a.refuse, b.refuse) && slices.Equal(a.wrong, b.wrong) &&
		a.left == b.left && a.pays == b.pays && a.ends == b.ends && a.need == b.need && a.errors == b.errors
}

// allErrors is an error of all functions but Check.
func allErrors(e api.Errno) [7]api.Errno { return [7]api.Errno{e, e, e, e, e, e, e} }

// must returns the result of a call, which must have no error.
func must[T any](t *testing.T) func(result T, e api.Errno) T {
	return func(result T, e api.Errno) T {
		t.Helper()
		if e != api.OK {
			t.Fatalf("error %d", e)
		}
		return result
	}
}

// endsOf returns Ends, or never with ErrDown.
func endsOf(t *testing.T, f api.GiFund) int {
	t.Helper()
	day, e := gift.Ends(f)
	if day == 0 && e == api.ErrDown {
		return never
	}
	return must[int](t)(day, e)
}

// leftOf returns Left of each day, paysOf Pays of each visit, and feesOf Fees of each visit.
func leftOf(t *testing.T, f api.GiFund) []api.Span {
	t.Helper()
	var l []api.Span
	for day := range f.Days {
		l = append(l, must[api.Span](t)(gift.Left(f, day)))
	}
	return l
}

func paysOf(t *testing.T, f api.GiFund) []int {
	t.Helper()
	var l []int
	for visit := range f.Visits {
		l = append(l, must[int](t)(gift.Pays(f, visit)))
	}
	return l
}

func feesOf(t *testing.T, f api.GiFund) [][]int {
	t.Helper()
	var l [][]int
	for visit := range f.Visits {
		l = append(l, must[[]int](t)(gift.Fees(f, visit)))
	}
	return l
}

// isTrue reports whether there is a truth, as the functions tell it.
func isTrue(t *testing.T, f api.GiFund) bool {
	t.Helper()
	_, e := gift.Need(f)
	if e != api.OK && e != api.ErrZero {
		t.Fatalf("Need's error is %d", e)
	}
	return e == api.OK
}

// fact is a truth: who is a widow, and what the letter of each visit costs, or nobody if the person does not come.
type fact struct {
	widows []bool
	fees   []int
}

// nobody is the fee of a letter for which nobody comes.
const nobody = -1

// knownFee returns what a letter of so many lines costs at an hour.
func knownFee(f api.GiFund, visit, lines, hour int) int {
	pence := f.Open
	for range lines {
		pence += f.Lines[f.Visits[visit].Kind]
	}
	if hour < f.From {
		return pence
	}
	return pence + f.Late
}

// knownFees returns what the letter of a visit can cost if there are no entries, each fee once, and nobody if the person may not come.
func knownFees(f api.GiFund, visit int) []int {
	v := f.Visits[visit]
	var fees []int
	if !v.Sure {
		fees = append(fees, nobody)
	}
	for lines := range api.MaxGiLines + 1 {
		for hour := range api.MaxGiHour + 1 {
			if lines >= v.Lines.Lo && lines <= v.Lines.Hi && hour >= v.Hour.Lo && hour <= v.Hour.Hi {
				fees = append(fees, knownFee(f, visit, lines, hour))
			}
		}
	}
	slices.Sort(fees)
	return slices.Compact(fees)
}

// choices returns all lists that have at each place one of so many choices.
func choices(many []int) iter.Seq[[]int] {
	return func(yield func(l []int) bool) {
		all := 1
		for _, n := range many {
			all *= n
		}
		for number := range all {
			l := make([]int, len(many))
			for at, n := range many {
				l[at] = number % n
				number /= n
			}
			if !yield(l) {
				return
			}
		}
	}
}

// knownTruths yields all truths of a gift: of all that could be so what its entries allow.
func knownTruths(f api.GiFund) iter.Seq[fact] {
	var many []int
	var fees [][]int
	for _, p := range f.People {
		many = append(many, []int{api.GiNo: 1, api.GiYes: 1, api.GiUnknown: 2}[p.Widow])
	}
	for visit := range f.Visits {
		fees = append(fees, knownFees(f, visit))
		many = append(many, len(fees[visit]))
	}
	return func(yield func(u fact) bool) {
		for l := range choices(many) {
			var u fact
			for at, p := range f.People {
				u.widows = append(u.widows, p.Widow == api.GiYes || l[at] == 1)
			}
			for visit, at := range l[len(f.People):] {
				u.fees = append(u.fees, fees[visit][at])
			}
			if isAllowed(f, u) && !yield(u) {
				return
			}
		}
	}
}

// isAllowed reports whether all entries of a gift are so.
func isAllowed(f api.GiFund, u fact) bool {
	return !slices.ContainsFunc(f.Entries, func(x api.GiEntry) bool { return u.fees[x.Visit] != x.Pence })
}

// isKnownTrue reports whether a gift has a truth.
func isKnownTrue(f api.GiFund) bool {
	for range knownTruths(f) {
		return true
	}
	return false
}

// course is what becomes of a gift in a truth: what is left behind each day, whether it pays for each visit, and the day on which it ends, or never.
type course struct {
	left []int
	pays []bool
	ends int
}

// courseOf returns what becomes of a gift.
func courseOf(f api.GiFund, u fact) course {
	c := course{ends: never}
	pence := f.Pence
	for day := range f.Days {
		for visit, v := range f.Visits {
			if v.Day != day {
				continue
			}
			asked := u.fees[visit] != nobody && u.widows[v.Person]
			paid := asked && c.ends == never && u.fees[visit] <= pence
			if asked && !paid && c.ends == never {
				c.ends = day
			}
			if paid {
				pence -= u.fees[visit]
			}
			c.pays = append(c.pays, paid)
		}
		c.left = append(c.left, pence)
	}
	return c
}

// lasts reports whether a gift ends in no truth, and has one.
func lasts(f api.GiFund) bool {
	truths := 0
	for u := range knownTruths(f) {
		truths++
		if courseOf(f, u).ends != never {
			return false
		}
	}
	return truths > 0
}

// subsets returns all lists of numbers below n, the shorter ones first, then number by number.
func subsets(n int) [][]int {
	all := [][]int{nil}
	for number := range n {
		for _, l := range all {
			all = append(all, append(slices.Clone(l), number))
		}
	}
	slices.SortFunc(all, func(a, b []int) int {
		if len(a) != len(b) {
			return len(a) - len(b)
		}
		return slices.Compare(a, b)
	})
	return all
}

// dice returns numbers that are the same in each run.
func dice(seed uint64) *rand.Rand { return rand.New(rand.NewPCG(seed, 11)) }

// oneOf returns one of some things.
func oneOf[T any](d *rand.Rand, things ...T) T { return things[d.IntN(len(things))] }

// narrow returns a span from lo to hi with a few numbers, often with one.
func narrow(d *rand.Rand, lo, hi int) api.Span {
	at := lo + d.IntN(hi-lo+1)
	return span(at, min(at+oneOf(d, 0, 0, 1, 2), hi))
}

// anyHour returns a span of hours, often about the one from which on letters cost more.
func anyHour(d *rand.Rand, from int) api.Span {
	return oneOf(d, narrow(d, 0, api.MaxGiHour), narrow(d, max(from-1, 0), from), span(from, from), span(0, api.MaxGiHour))
}

// anyVisit returns a visit of a gift.
func anyVisit(d *rand.Rand, f api.GiFund, day int) api.GiVisit {
	return api.GiVisit{
		Person: d.IntN(len(f.People)), Day: day, Kind: d.IntN(len(f.Lines)),
		Lines: narrow(d, 1, api.MaxGiLines), Hour: anyHour(d, f.From), Sure: d.IntN(3) > 0,
	}
}

// anyTruth returns what can be so, all entries apart, with letters as dear as they can be or not.
func anyTruth(d *rand.Rand, f api.GiFund) fact {
	var u fact
	for _, p := range f.People {
		u.widows = append(u.widows, p.Widow == api.GiYes || p.Widow == api.GiUnknown && d.IntN(3) > 0)
	}
	for visit := range f.Visits {
		fees := knownFees(f, visit)
		u.fees = append(u.fees, oneOf(d, oneOf(d, fees...), fees[len(fees)-1]))
	}
	return u
}

// anyPrices returns a gift without people, visits and entries.
func anyPrices(d *rand.Rand) api.GiFund {
	f := api.GiFund{
		Days: oneOf(d, 1+d.IntN(api.MaxGiDays), 2, 3), From: oneOf(d, d.IntN(api.MaxGiHour+1), 0, 12),
		Open: d.IntN(api.MaxGiFee + 1), Late: d.IntN(api.MaxGiFee + 1),
	}
	for range 1 + d.IntN(api.MaxGiKinds) {
		f.Lines = append(f.Lines, d.IntN(api.MaxGiFee+1))
	}
	return f
}

// anyGift returns what is so, and a gift whose entries are of this truth.
func anyGift(d *rand.Rand) (fact, api.GiFund) {
	f := anyPrices(d)
	for at := range oneOf(d, 0, 1, 2, 3, 3, 4, 4) {
		widow := oneOf(d, api.GiNo, api.GiYes, api.GiYes, api.GiUnknown, api.GiUnknown)
		f.People = append(f.People, person(string(rune('a'+at)), widow))
	}
	if len(f.People) > 0 {
		days := make([]int, d.IntN(api.MaxGiVisits+1))
		for at := range days {
			days[at] = d.IntN(f.Days)
		}
		slices.Sort(days)
		for _, day := range days {
			f.Visits = append(f.Visits, anyVisit(d, f, day))
		}
	}
	u := anyTruth(d, f)
	for visit, pence := range u.fees {
		if pence != nobody && d.IntN(4) == 0 && len(f.Entries) < api.MaxGiEntries {
			f.Entries = append(f.Entries, entry(visit, pence))
		}
	}
	most := 0
	for visit := range f.Visits {
		most += slices.Max(knownFees(f, visit))
	}
	f.Pence = min(oneOf(d, d.IntN(most+2), most*2/3, most/2, d.IntN(api.MaxGiPence+1)), api.MaxGiPence)
	return u, f
}

// anyFund returns a gift, some of whose entries can be wrong.
func anyFund(d *rand.Rand) api.GiFund {
	_, f := anyGift(d)
	if len(f.Visits) == 0 || d.IntN(3) > 0 {
		return f
	}
	for range d.IntN(api.MaxGiEntries + 1) {
		visit := d.IntN(len(f.Visits))
		pence := slices.Max(knownFees(f, visit)) + oneOf(d, -1, 0, 0, 1)
		if len(f.Entries) < api.MaxGiEntries && pence >= 0 {
			f.Entries = slices.Insert(f.Entries, d.IntN(len(f.Entries)+1), entry(visit, pence))
		}
	}
	return f
}

// eachFund calls a test for many gifts.
func eachFund(t *testing.T, test func(t *testing.T, d *rand.Rand, f api.GiFund)) {
	for seed := range uint64(4000) {
		d := dice(seed)
		f := anyFund(d)
		if part, at, e := gift.Check(f); part != 0 || at != 0 || e != api.OK {
			t.Fatalf("Check of %+v = %d, %d, %d", f, part, at, e)
		}
		test(t, d, f)
		if t.Failed() {
			t.Fatalf("the gift was %+v", f)
		}
	}
}

// eachTrueFund calls a test for many gifts that have a truth.
func eachTrueFund(t *testing.T, test func(t *testing.T, d *rand.Rand, f api.GiFund)) {
	eachFund(t, func(t *testing.T, d *rand.Rand, f api.GiFund) {
		if isTrue(t, f) {
			test(t, d, f)
		}
	})
}
